/- The codes of a graph and colourings, in the model and in the program. -/
import Derived.Test.YtjkemganbfldpaaColT
import Derived.Test.YtjkemganbfldpaaColJ
namespace Go.Proofs.Ytjkemganbfldpaa
open Go.RowKit

/-- Lists of numbers lie in memory as rows: k slices from a place on. -/
def RowsI (w : World) (b off k : Nat) (P : Nat → Option Addr) (L C : Nat → Nat) (X : Nat → List Int) : Prop :=
  ∀ i, i < k → w.cell? ⟨b, off + i, none⟩ = some (.slice (P i) (L i) (C i)) ∧ (X i).length = L i ∧ L i ≤ 1048576 ∧ SeesI w (P i) (X i)
theorem RowsI.on {w w' : World} {b off k : Nat} {P : Nat → Option Addr} {L C : Nat → Nat} {X : Nat → List Int} (h : RowsI w b off k P L C X) (hb : Below w.heap.size w w') : RowsI w' b off k P L C X := fun i hi => by
  obtain ⟨h1, h2, h3, h4⟩ := h i hi
  exact ⟨((bcells hb).1 _ _ (World.block_lt_of_cell? w _ h1)).trans h1, h2, h3, h4.on hb⟩
theorem RowsI.drew {w : World} {b off k : Nat} {P : Nat → Option Addr} {L C : Nat → Nat} {X : Nat → List Int} (h : RowsI w b off k P L C X) : RowsI w.drew b off k P L C X := h
theorem rows_one {w : World} {g : Nat} {q : Option Addr} {m d : Nat} {xs : List Int} {t : TypeId} (hg : g = w.heap.size) (hl : xs.length = m) (hm : m ≤ 1048576) (hs : SeesI w q xs) : RowsI (w.alloc (.cells #[.slice q m d] t)) g 0 1 (fun _ => q) (fun _ => m) (fun _ => d) (fun _ => xs) := fun i hi => by
  subst hg
  obtain rfl : i = 0 := by omega
  exact ⟨by simp, hl, hm, hs.alloc _⟩
theorem rows_two {w : World} {g : Nat} {q q' : Option Addr} {m d m' d' : Nat} {xs ys : List Int} {t : TypeId} (hg : g = w.heap.size) (hl : xs.length = m) (hm : m ≤ 1048576) (hs : SeesI w q xs) (hl' : ys.length = m') (hm' : m' ≤ 1048576) (hs' : SeesI w q' ys) :
    RowsI (w.alloc (.cells #[.slice q m d, .slice q' m' d'] t)) g 0 2 (fun i => if i = 0 then q else q') (fun i => if i = 0 then m else m') (fun i => if i = 0 then d else d') (fun i => if i = 0 then xs else ys) := fun i hi => by
  subst hg
  rcases (by omega : i = 0 ∨ i = 1) with rfl | rfl
  · exact ⟨by simp, hl, hm, hs.alloc _⟩
  · exact ⟨by simp, hl', hm', hs'.alloc _⟩

def colsCode (s : Int) (es : List (Int × Int)) (k : Nat) (X : Nat → List Int) : Int := if IsG s es then (if ∀ i, i < k → isColP es (X i) then 0 else 2) else 1

set_option maxRecDepth 100000 in
set_option maxHeartbeats 2000000 in
theorem sCode_none (s : Int) (p q : Option Addr) (n c m d : Nat) (es : List (Int × Int)) (w : World) (hn : es.length = n) (hm : n ≤ 9223372036854775807) (hr : SeesE w p es) (g : ¬ IsG s es) :
    Calls Try.prog 15 #[.agg #[.int .i64 s, .slice p n c], .slice q m d] w fun e' w' => e' = .returned (.int .i64 1) ∧ Below w.heap.size w w' := by
  have Hn := hid hn
  have Hr := hid hr
  have G := hid g
  clear hn hr g
  go_enter Try.func15, Try.ntmps15
  go_wp2_with fail
  refine (sIs_any _ _ _ _ es _ hm Hn.out (Hr.out.on (on_alloc _ _))).mono ?_
  rw [decide_eq_false G.out]
  rintro e w2 ⟨rfl, hb2⟩
  have hB2 := bfrom (w := w) (by go_grown) hb2
  go_wp2
  go_ret
  exact ⟨rfl, hB2⟩

set_option maxRecDepth 100000 in
set_option maxHeartbeats 4000000 in
theorem sCode_loop (s : Int) (p : Option Addr) (n c b off k d : Nat) (es : List (Int × Int)) (P : Nat → Option Addr) (L C : Nat → Nat) (X : Nat → List Int) (w : World) (hn : es.length = n) (hm : n ≤ 9223372036854775807) (hr : SeesE w p es) (g : IsG s es) (hk : k ≤ 2) (hX : RowsI w b off k P L C X) :
    Calls Try.prog 15 #[.agg #[.int .i64 s, .slice p n c], .slice (some ⟨b, off, none⟩) k d] w fun e' w' => e' = .returned (.int .i64 (if ∀ i, i < k → isColP es (X i) then 0 else 2)) ∧ Below w.heap.size w w' := by
  have Hn := hid hn
  have Hr := hid hr
  have G := hid g
  have HX := hid hX
  obtain ⟨r, hR⟩ : ∃ r : Int, r = (if ∀ i, i < k → isColP es (X i) then 0 else 2) := ⟨_, rfl⟩
  rw [← hR]
  have HR := hid hR
  clear hn hr g hX hR
  go_enter Try.func15, Try.ntmps15
  go_wp2_with fail
  refine (sIs_any _ _ _ _ es _ hm Hn.out (Hr.out.on (on_alloc _ _))).mono ?_
  rw [decide_eq_true G.out]
  rintro e w2 ⟨rfl, hb2⟩
  have HB2 := hid (bfrom (w := w) (by go_grown) hb2)
  have HG2 := hid ((Box.new w s p n c 31).on hb2)
  clear hb2
  go_wp2
  go_loopw [5] (fun ii wr => ∃ i : Nat, i ≤ k ∧ ii = .int .i64 i ∧ Hid (∀ j, j < i → isColP es (X j)) ∧ Hid (Below w.heap.size w wr) ∧ Hid (Box wr w.heap.size s p n c)) (fun ii _ => k - (intOf ii).toNat)
  case atStart => exact ⟨0, by omega, rfl, hid (fun j hj => by omega), HB2, HG2⟩
  case round =>
    obtain ⟨i, hi, rfl, hE, hB, hG⟩ := hrel
    clear HB2 HG2
    by_cases hlt : i < k
    · obtain ⟨x1, x2, x3, x4⟩ := HX.out.on hB.out i hlt
      have hx := hG.out.1
      have hy := hG.out.2
      have hz := hG.out.lt
      have hbl : b < wr.heap.size := World.block_lt_of_cell? wr _ x1
      have X2 := hid x2
      have X4 := hid x4
      clear x2 x4
      obtain ⟨f, hf⟩ : ∃ f : Bool, decide (isColP es (X i)) = f := ⟨_, rfl⟩
      have HF := hid hf
      clear hf
      obtain ⟨wo, rfl⟩ : ∃ wo : World, wo = wr := ⟨_, rfl⟩
      cases f
      all_goals
        go_wp2
        go_still_tail 5, (by kernel_rfl)
        go_wp2_with fail
        refine (sColIs_any _ _ _ _ _ _ _ es (X i) _ G.out Hn.out (Hr.out.on hB.out.drew) X2.out x3 (X4.out.on (Below.refl _ _).drew)).mono ?_
        rw [HF.out]
        rintro e' w3 ⟨rfl, hb3⟩
        have HB3 := hid (bfrom hB.out.drew hb3)
        have HG3 := hid (hG.out.drew.on hb3)
        clear hb3 hx hy hz
        go_wp2
      · go_ret
        refine ⟨?_, HB3.out⟩
        rw [HR.out, if_neg (fun h => of_decide_eq_false HF.out (h i hlt))]
        rfl
      · go_roundw
        case rel =>
          refine ⟨i + 1, by omega, by go_num, hid (fun j hj => ?_), HB3, HG3⟩
          rcases Nat.lt_or_ge j i with h | h
          · exact hE.out j h
          · obtain rfl : j = i := by omega
            exact of_decide_eq_true HF.out
        case measure => simp [intOf]; omega
    · obtain rfl : i = k := by omega
      go_wp2
      go_ret
      refine ⟨?_, hB.out⟩
      rw [HR.out, if_pos hE.out]
      rfl

theorem sCode_any (s : Int) (p : Option Addr) (n c b off k d : Nat) (es : List (Int × Int)) (P : Nat → Option Addr) (L C : Nat → Nat) (X : Nat → List Int) (w : World) (hn : es.length = n) (hm : n ≤ 9223372036854775807) (hr : SeesE w p es) (hk : k ≤ 2) (hX : RowsI w b off k P L C X) :
    Calls Try.prog 15 #[.agg #[.int .i64 s, .slice p n c], .slice (some ⟨b, off, none⟩) k d] w fun e' w' => e' = .returned (.int .i64 (colsCode s es k X)) ∧ Below w.heap.size w w' := by
  unfold colsCode
  by_cases g : IsG s es
  · rw [if_pos g]
    exact sCode_loop s p n c b off k d es P L C X w hn hm hr g hk hX
  · rw [if_neg g]
    exact sCode_none s p _ n c k d es w hn hm hr g

set_option maxRecDepth 100000 in
set_option maxHeartbeats 2000000 in
theorem iCode_none (s : Int) (p q : Option Addr) (n c m d : Nat) (es : List (Int × Int)) (w : World) (hn : es.length = n) (hm : n ≤ 1048576) (hr : SeesE w p es) (g : ¬ IsG s es) :
    Calls Try.prog 18 #[.agg #[.int .i64 s, .slice p n c], .slice q m d] w fun e' w' => e' = .returned (.int .i64 1) ∧ Below w.heap.size w w' := by
  have Hn := hid hn
  have Hr := hid hr
  have G := hid g
  clear hn hr g
  go_enter Try.func18, Try.ntmps18
  go_wp2_with fail
  refine (iIsGraph_any _ _ _ _ es _ hm Hn.out (Hr.out.on (on_alloc _ _))).mono ?_
  rw [decide_eq_false G.out]
  rintro e w2 ⟨rfl, hb2⟩
  have hB2 := bfrom (w := w) (by go_grown) hb2
  go_wp2
  go_ret
  exact ⟨rfl, hB2⟩

set_option maxRecDepth 100000 in
set_option maxHeartbeats 4000000 in
theorem iCode_loop (s : Int) (p : Option Addr) (n c b off k d : Nat) (es : List (Int × Int)) (P : Nat → Option Addr) (L C : Nat → Nat) (X : Nat → List Int) (w : World) (hn : es.length = n) (hm : n ≤ 1048576) (hr : SeesE w p es) (g : IsG s es) (hk : k ≤ 2) (hX : RowsI w b off k P L C X) :
    Calls Try.prog 18 #[.agg #[.int .i64 s, .slice p n c], .slice (some ⟨b, off, none⟩) k d] w fun e' w' => e' = .returned (.int .i64 (if ∀ i, i < k → isColP es (X i) then 0 else 2)) ∧ Below w.heap.size w w' := by
  have Hn := hid hn
  have Hr := hid hr
  have G := hid g
  have HX := hid hX
  obtain ⟨r, hR⟩ : ∃ r : Int, r = (if ∀ i, i < k → isColP es (X i) then 0 else 2) := ⟨_, rfl⟩
  rw [← hR]
  have HR := hid hR
  clear hn hr g hX hR
  go_enter Try.func18, Try.ntmps18
  go_wp2_with fail
  refine (iIsGraph_any _ _ _ _ es _ hm Hn.out (Hr.out.on (on_alloc _ _))).mono ?_
  rw [decide_eq_true G.out]
  rintro e w2 ⟨rfl, hb2⟩
  have HB2 := hid (bfrom (w := w) (by go_grown) hb2)
  have HG2 := hid ((Box.new w s p n c 31).on hb2)
  clear hb2
  go_wp2
  go_loopw [12] (fun ii wr => ∃ i : Nat, i ≤ k ∧ ii = .int .i64 i ∧ Hid (∀ j, j < i → isColP es (X j)) ∧ Hid (Below w.heap.size w wr) ∧ Hid (Box wr w.heap.size s p n c)) (fun ii _ => k - (intOf ii).toNat)
  case atStart => exact ⟨0, by omega, rfl, hid (fun j hj => by omega), HB2, HG2⟩
  case round =>
    obtain ⟨i, hi, rfl, hE, hB, hG⟩ := hrel
    clear HB2 HG2
    by_cases hlt : i < k
    · obtain ⟨x1, x2, x3, x4⟩ := HX.out.on hB.out i hlt
      have hx := hG.out.1
      have hy := hG.out.2
      have hz := hG.out.lt
      have hbl : b < wr.heap.size := World.block_lt_of_cell? wr _ x1
      have X2 := hid x2
      have X4 := hid x4
      clear x2 x4
      obtain ⟨f, hf⟩ : ∃ f : Bool, decide (isColP es (X i)) = f := ⟨_, rfl⟩
      have HF := hid hf
      clear hf
      obtain ⟨wo, rfl⟩ : ∃ wo : World, wo = wr := ⟨_, rfl⟩
      cases f
      all_goals
        go_wp2_with fail
        refine (iColIs_any _ _ _ _ _ _ _ es (X i) _ G.out Hn.out (Hr.out.on hB.out) X2.out x3 X4.out).mono ?_
        rw [HF.out]
        rintro e' w3 ⟨rfl, hb3⟩
        have HB3 := hid (bfrom hB.out hb3)
        have HG3 := hid (hG.out.on hb3)
        clear hb3 hx hy hz
        go_wp2
      · go_ret
        refine ⟨?_, HB3.out⟩
        rw [HR.out, if_neg (fun h => of_decide_eq_false HF.out (h i hlt))]
        rfl
      · go_roundw
        case rel =>
          refine ⟨i + 1, by omega, by go_num, hid (fun j hj => ?_), HB3, HG3⟩
          rcases Nat.lt_or_ge j i with h | h
          · exact hE.out j h
          · obtain rfl : j = i := by omega
            exact of_decide_eq_true HF.out
        case measure => simp [intOf]; omega
    · obtain rfl : i = k := by omega
      go_wp2
      go_ret
      refine ⟨?_, hB.out⟩
      rw [HR.out, if_pos hE.out]
      rfl

theorem iCode_any (s : Int) (p : Option Addr) (n c b off k d : Nat) (es : List (Int × Int)) (P : Nat → Option Addr) (L C : Nat → Nat) (X : Nat → List Int) (w : World) (hn : es.length = n) (hm : n ≤ 1048576) (hr : SeesE w p es) (hk : k ≤ 2) (hX : RowsI w b off k P L C X) :
    Calls Try.prog 18 #[.agg #[.int .i64 s, .slice p n c], .slice (some ⟨b, off, none⟩) k d] w fun e' w' => e' = .returned (.int .i64 (colsCode s es k X)) ∧ Below w.heap.size w w' := by
  unfold colsCode
  by_cases g : IsG s es
  · rw [if_pos g]
    exact iCode_loop s p n c b off k d es P L C X w hn hm hr g hk hX
  · rw [if_neg g]
    exact iCode_none s p _ n c k d es w hn hm hr g

end Go.Proofs.Ytjkemganbfldpaa
