/- The library's sort, called on edges with the program's closure. -/
import Derived.Test.YtafiockejagapaaImplD
import Derived.Test.YtafiockejagapaaSortPlain
import Derived.Test.YtafiockejagapaaShelfE
import Derived.Shelf.SlSortCmp.NoneTotal
namespace Go.Proofs.Ytafiockejagapaa
open Go.RowKit Go.Lib Go.Sort Go.Shelf

theorem cmpE_key (x y : Int × Int) : cmpE x y < 0 ↔ ltE x.1 x.2 y.1 y.2 := by
  unfold cmpE cmp3 ltE
  by_cases h1 : x.1 < y.1
  · simp [h1]
  · by_cases h2 : y.1 < x.1
    · simp [h1, h2]; omega
    · have h3 : x.1 = y.1 := by omega
      simp [h3]
      by_cases h4 : x.2 < y.2
      · simp [h4]
      · by_cases h5 : y.2 < x.2
        · simp [h4, h5]
        · simp [h4, h5]

theorem cmpE_lt (x y : Int × Int) : ltOf cmpE x y = decide (ltE x.1 x.2 y.1 y.2) := decide_eq_decide.2 (cmpE_key x y)

theorem cmpE_swo : SWO (ltOf cmpE) where
  irrefl x := by simp only [cmpE_lt, decide_eq_false_iff_not, ltE]; omega
  trans x y z h1 h2 := by rw [cmpE_lt, decide_eq_true_eq] at h1 h2 ⊢; unfold ltE at *; omega
  ntrans x y z h1 h2 := by rw [cmpE_lt, decide_eq_false_iff_not] at h1 h2 ⊢; unfold ltE at *; omega

theorem cmpE_total (x y : Int × Int) (h1 : ltOf cmpE x y = false) (h2 : ltOf cmpE y x = false) : x = y := by
  rw [cmpE_lt, decide_eq_false_iff_not] at h1 h2
  unfold ltE at *
  apply Prod.ext <;> omega

theorem cmpE_le : (fun x y => !(ltOf cmpE) y x) = leE := by
  funext x y
  rw [cmpE_lt]
  unfold leE
  exact (decide_not ..).symm

theorem cmpLays (g m : Nat) (w : World) : CmpLays Try.prog 151 #[] encE 2 cmpE g 0 m w := fun k os dk _ x y =>
  (closure_any x.1 x.2 y.1 y.2 (sortWorldK encE 2 w g 0 k dk os)).mono fun e w' h => by
    obtain ⟨he, q, hw⟩ := h
    refine ⟨he, q, #[.cells #[.int .i64 x.1, .int .i64 x.2] 61] ++ #[.cells #[.int .i64 y.1, .int .i64 y.2] 61], ?_⟩
    rw [hw, alloc_eq_grow, alloc_eq_grow, grow_grow]
    rfl

theorem sortFunc_any (g cap m : Nat) (es : List (Int × Int)) (w : World) (ho : OwnE w g cap es) (hl : es.length = m) (hm : m ≤ 1048576) :
    Calls Try.prog 150 #[.slice (some ⟨g, 0, none⟩) m cap, .func (.func 151) #[] #[]] w fun e w' => e = .returned (.tuple #[]) ∧ OwnE w' g cap (es.mergeSort leE) ∧ RowKit.Below g w w' := by
  have eg : ∀ args w, (callFunc 151 args).run Try.prog w = .ok (.enter 151 args) w := enters_of Try.func151 (by kernel_rfl) rfl
  have hcon := AnyQ.slices_SortFunc_total Try.sortE 2 Try.isAgg61 Try.sizeOf61 encE (fun _ => rfl) (fun x v hv => by simp [encE] at hv; rcases hv with rfl | rfl <;> rfl) cmpE cmpE_swo 151 #[] g 0 cap es.toArray w eg (cmpLays g _ w) ho.holdsK ho.lt (by simp; omega) cmpE_total
  change Calls Try.prog 150 _ _ _ at hcon
  rw [cmpE_le] at hcon
  subst hl
  refine hcon.mono ?_
  rintro e w' ⟨he, n, os, rfl⟩
  refine ⟨he, ?_, below_sorted _ _ _ _ _ ho.lt⟩
  exact ho.sorted (List.length_mergeSort _)

end Go.Proofs.Ytafiockejagapaa
