/- CyclesLeft in the program: the code of a matching, the range over the cycles, the lengths put in order. -/
import Derived.Test.YthncgpbgffbpgaaCycI
import Derived.Test.YthncgpbgffbpgaaMatI
import Derived.Test.YthncgpbgffbpgaaLensA
import Derived.Test.YthncgpbgffbpgaaImplG
namespace Go.Proofs.Ythncgpbgffbpgaa
open Go.RowKit Go.Shelf

attribute [local go_sem] Oper.semAt_some

set_option maxRecDepth 100000 in
set_option maxHeartbeats 2000000 in
theorem iMatCode_any (s : Int) (p ps : Option Addr) (n c k f : Nat) (es : List (Int × Int)) (xs : List Int) (w : World) (hm : n ≤ 1048576) (hn : es.length = n) (hr : SeesE w p es) (hk9 : k ≤ 1048576) (hx : xs.length = k) (hrx : SeesI w ps xs) :
    Calls Try.prog 25 #[.agg #[.int .i64 s, .slice p n c], .slice ps k f] w fun e' w' => e' = .returned (.int .i64 (matCode s es xs)) ∧ Below w.heap.size w w' := by
  have Hn := hid hn
  have Hr := hid hr
  have Hx := hid hx
  have Hrx := hid hrx
  unfold matCode
  by_cases g : IsG s es
  · rw [if_pos g]
    have G := hid g
    obtain ⟨q, hq⟩ : ∃ q, decide (isMatP s es xs) = q := ⟨_, rfl⟩
    have hq' : (if isMatP s es xs then (0 : Int) else 2) = if q then 0 else 2 := by
      subst hq
      by_cases h : isMatP s es xs <;> simp [h]
    rw [hq']
    have HQ := hid hq
    clear hn hr hx hrx g hq hq'
    cases q
    · go_enter Try.func25, Try.ntmps25
      go_wp2_with fail
      refine (iIsGraph_any _ _ _ _ es _ hm Hn.out (Hr.out.on (on_alloc _ _))).mono ?_
      rw [decide_eq_true G.out]
      rintro e w2 ⟨rfl, hb2⟩
      have hX2 := (Box.new w s p n c 31).on hb2
      have hx2 := hX2.1
      have hy2 := hX2.2
      have hz2 := hX2.lt
      have HB2 := hid (bfrom (w := w) (by go_grown) hb2)
      clear hb2 hX2
      go_wp2_with fail
      refine (iMatIs_any _ _ _ _ _ _ _ es xs _ G.out Hn.out (Hr.out.on HB2.out) hk9 Hx.out (Hrx.out.on HB2.out)).mono ?_
      rw [HQ.out]
      rintro e w3 ⟨rfl, hb3⟩
      have HB3 := hid (bfrom HB2.out hb3)
      clear hx2 hy2 hz2 hb3
      go_wp2
      go_ret
      exact ⟨rfl, HB3.out⟩
    · go_enter Try.func25, Try.ntmps25
      go_wp2_with fail
      refine (iIsGraph_any _ _ _ _ es _ hm Hn.out (Hr.out.on (on_alloc _ _))).mono ?_
      rw [decide_eq_true G.out]
      rintro e w2 ⟨rfl, hb2⟩
      have hX2 := (Box.new w s p n c 31).on hb2
      have hx2 := hX2.1
      have hy2 := hX2.2
      have hz2 := hX2.lt
      have HB2 := hid (bfrom (w := w) (by go_grown) hb2)
      clear hb2 hX2
      go_wp2_with fail
      refine (iMatIs_any _ _ _ _ _ _ _ es xs _ G.out Hn.out (Hr.out.on HB2.out) hk9 Hx.out (Hrx.out.on HB2.out)).mono ?_
      rw [HQ.out]
      rintro e w3 ⟨rfl, hb3⟩
      have HB3 := hid (bfrom HB2.out hb3)
      clear hx2 hy2 hz2 hb3
      go_wp2
      go_ret
      exact ⟨rfl, HB3.out⟩
  · rw [if_neg g]
    have G := hid g
    clear hn hr hx hrx g
    go_enter Try.func25, Try.ntmps25
    go_wp2_with fail
    refine (iIsGraph_any _ _ _ _ es _ hm Hn.out (Hr.out.on (on_alloc _ _))).mono ?_
    rw [decide_eq_false G.out]
    rintro e w2 ⟨rfl, hb2⟩
    have HB2 := hid (bfrom (w := w) (by go_grown) hb2)
    clear hb2
    go_wp2
    go_ret
    exact ⟨rfl, HB2.out⟩

/-- A matching leaves at least one cycle. -/
theorem cyU_some {s : Int} {es : List (Int × Int)} {xs : List Int} (g : IsG s es) (mt : isMatP s es xs) : 0 < (cyU es (freeB es xs) (nxF es xs) es.length).length := by
  have h0 : (0 : Int) ≤ 0 ∧ (0 : Int) < s := ⟨Int.le_refl _, by have := g.1.1.1; omega⟩
  obtain ⟨x, y, z, hL, hxy, _⟩ := onL_three g h0
  have hx := (onL_mem (es := es) (v := 0) (e := x)).1 (by rw [hL]; simp)
  have hy := (onL_mem (es := es) (v := 0) (e := y)).1 (by rw [hL]; simp)
  have hf : ∃ e, freeB es xs e = true := by
    by_cases h1 : (x : Int) ∈ xs
    · by_cases h2 : (y : Int) ∈ xs
      · exact absurd (mat_one mt h1 h2 hx.2 hy.2) hxy
      · exact ⟨y, freeB_iff.2 ⟨hy.1, h2⟩⟩
    · exact ⟨x, freeB_iff.2 ⟨hx.1, h1⟩⟩
  obtain ⟨e, he⟩ := hf
  have key : ∀ m e, e ≤ m → freeB es xs e = true → 0 < (cyU es (freeB es xs) (nxF es xs) es.length).length := by
    intro m
    induction m with
    | zero =>
      intro e he hf
      obtain rfl : e = 0 := by omega
      have hl : leadC es (freeB es xs) (nxF es xs) 0 = true := by
        unfold leadC
        rw [hf]
        simp [metC]
      have := cyU_lt (freeB_iff.1 hf).1 hl
      omega
    | succ m ih =>
      intro e he hf
      by_cases hl : leadC es (freeB es xs) (nxF es xs) e = true
      · have := cyU_lt (freeB_iff.1 hf).1 hl
        omega
      · have hm : metC es (freeB es xs) (nxF es xs) e e = true := by
          unfold leadC at hl
          rw [hf] at hl
          simpa using hl
        unfold metC at hm
        rw [List.any_eq_true] at hm
        obtain ⟨e', h1, h2⟩ := hm
        rw [List.mem_range] at h1
        rw [Bool.and_eq_true] at h2
        exact ih e' (by omega) h2.1
  exact key e e (Nat.le_refl _) he

theorem iLeft_func (s : Int) (p ps : Option Addr) (n c m f0 : Nat) (w : World) :
    Calls Try.prog 26 #[.agg #[.int .i64 s, .slice p n c], .slice ps m f0] w fun e w' => e = .returned (.func (.func 41) #[] #[.pointer (some ⟨w.heap.size, 0, none⟩), .pointer (some ⟨w.heap.size + 1, 0, none⟩)]) ∧ w' = (w.alloc (.cells #[.int .i64 s, .slice p n c] 31)).alloc (.cells #[.slice ps m f0] 25) := by
  go_enter Try.func26, Try.ntmps26
  go_wp2
  go_ret
  exact ⟨rfl, rfl⟩

theorem row_less2 {w : World} {B B' : Nat} {e : TypeId} {sz n : Nat} {v : Value} {xs : List Value} (h : w.ownsRow B e sz v n xs) (hB : B' ≤ B) : w.ownsRow B' e sz v n xs := by
  refine ⟨h.1, ?_⟩
  rcases h.2 with hn | ⟨g, c, cur, hv, hb, r⟩
  · exact .inl hn
  · exact .inr ⟨g, c, cur, hv, Nat.le_trans hB hb, r⟩
theorem row_moved {X Y : World} {B g n : Nat} {e : TypeId} {sz : Nat} {v : Value} {xs : List Value} (h : X.ownsRow B e sz v n xs) (hm : Kept (fun i => i ≠ g) X Y) (hg : g < B) : Y.ownsRow B e sz v n xs := by
  refine ⟨h.1, ?_⟩
  rcases h.2 with hn | ⟨b, c, cur, hv, hb, hc, r⟩
  · exact .inl hn
  · exact .inr ⟨b, c, cur, hv, hb, (hm.same b (by omega) (Array.getElem?_eq_some_iff.1 hc).1).trans hc, r⟩
theorem box_moved {X Y : World} {B g : Nat} {t : TypeId} {v : Value} (h : Boxed X B t v) (hm : Kept (fun i => i ≠ g) X Y) (hg : B ≠ g) : Boxed Y B t v := (hm.same B hg h.lt).trans h
theorem seesI_putObj {W : World} {q : Option Addr} {xs : List Int} {l : Nat} {o o' : Obj} (h : SeesI W q xs) (hl : W.heap[l]? = some o) (ho : o.isCells = false) : SeesI (W.putObj l o') q xs := by
  rcases h with h | ⟨b, off, hq, hr⟩
  · exact .inl h
  · refine .inr ⟨b, off, hq, fun i hi => ?_⟩
    have h1 := hr i hi
    have hne : b ≠ l := fun e => by
      subst e
      unfold World.cell? at h1
      rw [hl] at h1
      cases o <;> simp [Obj.isCells] at ho h1
    rw [← h1]
    exact World.cell?_of_block (w := W) (World.putObj_heap_other hne)

end Go.Proofs.Ythncgpbgffbpgaa
