/- MatchingsOf at any argument, in the model and in the program. -/
import Derived.Test.YtaafbdpdpndplaaMtP
import Derived.Test.YtaafbdpdpndplaaMtS
import Derived.Test.YtaafbdpdpndplaaSeesM
namespace Go.Proofs.Ytaafbdpdpndplaa
open Go.RowKit Go.Shelf

def fMatchingsOf (s : Int) (es : List (Int × Int)) : List (List Int) × Int := if IsG s es then mcF (mtL s.toNat es) else ([], 1)
theorem mcF_len (Us : List (List Int)) : (mcF Us).1.length ≤ 60 := by
  unfold mcF
  by_cases h : Us.length ≤ 60
  · rw [if_pos h]; exact h
  · rw [if_neg h]; simp
theorem fMatchingsOf_len (s : Int) (es : List (Int × Int)) (_ : es.length ≤ 1048576) : (fMatchingsOf s es).1.length ≤ 1048576 := by
  unfold fMatchingsOf
  by_cases g : IsG s es
  · rw [if_pos g]
    have := mcF_len (mtL s.toNat es)
    omega
  · rw [if_neg g]; simp
theorem sumLL_cap {Ls : List (List Int)} {m : Nat} (h : ∀ i, i < Ls.length → (lI Ls i).length ≤ m) : ∀ j, j ≤ Ls.length → sumLL Ls j ≤ j * m := by
  intro j
  induction j with
  | zero => intro _; simp [sumLL]
  | succ j ih =>
    intro hj
    have h1 := ih (by omega)
    have h2 := h j (by omega)
    show sumLL Ls j + (lI Ls j).length ≤ (j + 1) * m
    rw [Nat.add_mul]
    omega
theorem lI_in {Ls : List (List Int)} {i : Nat} (h : i < Ls.length) : lI Ls i ∈ Ls := by
  have h1 := lI_lt h
  exact List.mem_of_getElem? h1
theorem mtL_len {N : Nat} {es : List (Int × Int)} {x : List Int} (h : x ∈ mtL N es) : x.length = N / 2 := by
  have h1 := mtF_len _ _ _ _ h
  rw [h1]
  simp
theorem fMatchingsOf_sum (s : Int) (es : List (Int × Int)) (_ : es.length ≤ 1048576) : 1 + sumLL (fMatchingsOf s es).1 (fMatchingsOf s es).1.length ≤ 1048576 := by
  unfold fMatchingsOf
  by_cases g : IsG s es
  · rw [if_pos g]
    have h30 := isG_len g
    have h1 := mcF_len (mtL s.toNat es)
    have h2 : ∀ i, i < (mcF (mtL s.toNat es)).1.length → (lI (mcF (mtL s.toNat es)).1 i).length ≤ 30 := fun i hi => by
      have h3 := lI_in hi
      have h4 : lI (mcF (mtL s.toNat es)).1 i ∈ mtL s.toNat es := by
        revert h3
        generalize lI (mcF (mtL s.toNat es)).1 i = X
        unfold mcF
        split
        · exact id
        · intro h; simp at h
      rw [mtL_len h4]
      have := g.1.1.2.1
      omega
    have h5 := sumLL_cap h2 _ (Nat.le_refl _)
    have h6 : (mcF (mtL s.toNat es)).1.length * 30 ≤ 60 * 30 := Nat.mul_le_mul_right 30 h1
    omega
  · rw [if_neg g]; simp [sumLL]



set_option maxRecDepth 100000 in
set_option maxHeartbeats 2000000 in
theorem iMc_no (s : Int) (p : Option Addr) (n c : Nat) (es : List (Int × Int)) (w : World) (hm : n ≤ 1048576) (hn : es.length = n) (hr : SeesE w p es) (g : ¬ IsG s es) :
    Calls Try.prog 15 #[.agg #[.int .i64 s, .slice p n c]] w fun e' w' => e' = .returned (.tuple #[.slice none 0 0, .int .i64 1]) ∧ Below w.heap.size w w' := by
  have Hn := hid hn
  have Hr := hid hr
  have G := hid g
  have HB0 := hid (show Below w.heap.size w (((w.alloc (.cells #[.int .i64 s, .slice p n c] 30)).alloc (.cells #[.slice none 0 0] 36)).alloc (.cells #[.int .i64 0] 2)) from bfrom (bfrom (on_alloc _ _) (on_alloc _ _)) (on_alloc _ _))
  have hR4 := (Boxed.new (w.alloc (.cells #[.int .i64 s, .slice p n c] 30)) 36 (.slice none 0 0)).alloc (.cells #[.int .i64 0] 2)
  have hR5 := Boxed.new ((w.alloc (.cells #[.int .i64 s, .slice p n c] 30)).alloc (.cells #[.slice none 0 0] 36)) 2 (.int .i64 0)
  simp only [World.size_alloc] at hR4 hR5
  have HR4 := hid hR4
  have HR5 := hid hR5
  clear hn hr g hR4 hR5
  go_enter Try.func15, Try.ntmps15
  go_wp2_with fail
  refine (iIsGraph_any _ _ _ _ es _ hm Hn.out (Hr.out.on HB0.out)).mono ?_
  rw [decide_eq_false G.out]
  rintro e w2 ⟨rfl, hb2⟩
  have HB2 := hid (bfrom HB0.out hb2)
  have hq4 : Boxed w2 (w.heap.size + 1) 36 (.slice none 0 0) := (hb2.block (w.heap.size + 1) (by simp)).trans HR4.out
  have hq5 : Boxed w2 (w.heap.size + 1 + 1) 2 (.int .i64 0) := (hb2.block (w.heap.size + 1 + 1) (by simp)).trans HR5.out
  have hc4 := hq4.cell
  have hc5 := hq5.cell
  have hf4 := hq4.frozen
  have hf5 := hq5.frozen
  have hz4 := hq4.lt
  have hz5 := hq5.lt
  clear hb2
  go_wp2
  refine bodyPost_ret (results_lists rfl _ _ (w.heap.size + 1) (w.heap.size + 1 + 1) _ _ _ _ rfl rfl ((Boxed.set _ hq4).other (by omega) _) (Boxed.set _ (hq5.other (by omega) _))) rfl ?_
  exact ⟨rfl, (HB2.out.setCell (p := ⟨w.heap.size + 1, 0, none⟩) (by show w.heap.size ≤ w.heap.size + 1; omega) _).setCell (p := ⟨w.heap.size + 1 + 1, 0, none⟩) (by show w.heap.size ≤ w.heap.size + 1 + 1; omega) _⟩


theorem iMatchingsOf_any (s : Int) (p : Option Addr) (n c : Nat) (es : List (Int × Int)) (w : World) (hm : n ≤ 1048576) (hn : es.length = n) (hr : SeesE w p es) :
    Calls Try.prog 15 #[.agg #[.int .i64 s, .slice p n c]] w fun e' w' => ∃ q cap, e' = .returned (.tuple #[.slice q (fMatchingsOf s es).1.length cap, .int .i64 (fMatchingsOf s es).2]) ∧ FreshP w.heap.size w' q (fMatchingsOf s es).1.length (fMatchingsOf s es).1 ∧ Below w.heap.size w w' := by
  unfold fMatchingsOf
  by_cases g : IsG s es
  · rw [if_pos g]
    obtain ⟨b, off, rfl, rd⟩ := isG_sees g hr
    obtain ⟨N, rfl⟩ : ∃ N : Nat, s = N := ⟨_, (Int.toNat_of_nonneg (by have := g.1.1.1; omega)).symm⟩
    rw [Int.toNat_natCast]
    exact iMc_yes N (N / 2) b off n c es w hn rd g (by have := g.1.1.2.2.1; omega)
  · rw [if_neg g]
    exact (iMc_no s p n c es w hm hn hr g).mono fun e w' ⟨he, hb⟩ => ⟨none, 0, he, ⟨rfl, .inl rfl⟩, hb⟩


end Go.Proofs.Ytaafbdpdpndplaa
