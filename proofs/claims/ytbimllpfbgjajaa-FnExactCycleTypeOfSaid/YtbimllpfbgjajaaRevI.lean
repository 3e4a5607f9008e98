/- slices.Reverse at int64. -/
import Derived.Test.YtbimllpfbgjajaaLawsF
import Derived.BigRegion
import Derived.StillTailTactics
namespace Go.Proofs.Ytbimllpfbgjajaa
open Go.RowKit

attribute [local go_sem] Oper.semAt_some

set_option maxRecDepth 100000 in
set_option maxHeartbeats 8000000 in
theorem revI_any (B g cap n : Nat) (xs : List Int) (w : World) (ho : OwnI w g cap xs) (hl : xs.length = n) (h1 : 1 ≤ n) (hn : n ≤ 1048576) (hBg : B ≤ g) :
    Calls Try.prog 76 #[.slice (some ⟨g, 0, none⟩) n cap] w fun e w' => e = .returned (.tuple #[]) ∧ OwnI w' g cap xs.reverse ∧ Below B w w' := by
  have Ho := hid ho
  have Hl := hid hl
  have hBs : B ≤ w.heap.size := by have := ho.lt; omega
  have e0 : IntKind.i64.wrap ((n : Int) - 1) = (n : Int) - 1 := IntWalk.i64_in _ (by omega)
  clear ho hl
  go_enter Try.func76, Try.ntmps76
  go_wp2
  go_loopw [2, 3] (fun u v wr => ∃ (j : Nat) (ys : List Int), j ≤ n ∧ u = .int .i64 j ∧ v = .int .i64 ((n : Int) - 1 - j) ∧ Hid (ys.length = n ∧ ∀ i, i < n → eI ys i = if i < j ∨ n - 1 - i < j then eI xs (n - 1 - i) else eI xs i) ∧ Hid (OwnI wr g cap ys) ∧ Hid (Below B w wr)) (fun u _ _ => n - (intOf u).toNat)
  case atStart => exact ⟨0, xs, Nat.zero_le _, rfl, by simp, hid ⟨Hl.out, fun i hi => by rw [if_neg (by omega)]⟩, Ho, hid (Below.refl _ _)⟩
  case round =>
    obtain ⟨j, ys, hj, rfl, rfl, hY, hO, hB⟩ := hrel
    by_cases hlt : (j : Int) < (n : Int) - 1 - j
    · obtain ⟨K, hK⟩ : ∃ K : Nat, (n : Int) - 1 - j = K := ⟨n - 1 - j, by omega⟩
      rw [hK]
      have hjK : (j : Int) < (K : Int) := by omega
      have hKn : K < n := by omega
      have hjn : j < n := by omega
      have hjn' : (j : Int) < (n : Int) := by omega
      have hKn' : (K : Int) < (n : Int) := by omega
      have c1 := hO.out.reads j (by rw [hY.out.1]; exact hjn)
      have c2 := hO.out.reads K (by rw [hY.out.1]; exact hKn)
      rw [Nat.zero_add] at c1 c2
      have f1 := hO.out.free j
      have f2 := hO.out.free K
      have hgs := hO.out.lt
      have hne : j ≠ K := by omega
      have hne2 : K ≠ j := by omega
      have eK : IntKind.i64.wrap ((K : Int) - 1) = (K : Int) - 1 := IntWalk.i64_in _ (by omega)
      have ej : IntKind.i64.wrap ((j : Int) + 1) = (j : Int) + 1 := IntWalk.i64_in _ (by omega)
      have HK := hid hK
      have HLT := hid hlt
      clear hK hlt
      obtain ⟨wo, rfl⟩ : ∃ wo : World, wo = wr := ⟨_, rfl⟩
      go_wp2
      go_region
      go_wp2
      go_roundw
      case rel =>
        have hk := HK.out
        have hlt := HLT.out
        refine ⟨j + 1, (ys.set j (eI ys K)).set K (eI ys j), by omega, by go_num, ?_, hid ⟨by rw [List.length_set, List.length_set]; exact hY.out.1, fun i hi => ?_⟩, hid ?_, hid ?_⟩
        · congr 1; omega
        · have hl2 := hY.out.1
          have hy := hY.out.2
          have hs : ∀ (zs : List Int) (a : Nat) (x : Int), a < zs.length → eI (zs.set a x) i = if i = a then x else eI zs i := fun zs a x ha => by
            by_cases e : i = a
            · subst e; rw [if_pos rfl, eI_lt (by rw [List.length_set]; exact ha)]; simp
            · rw [if_neg e]; simp [eI, List.getD_eq_getElem?_getD, List.getElem?_set_ne (fun h => e h.symm)]
          rw [hs _ K _ (by rw [List.length_set]; omega), hs _ j _ (by omega)]
          by_cases e1 : i = K
          · subst e1
            rw [if_pos rfl, hy j hjn, if_neg (by omega), if_pos (by omega)]
            congr 1; omega
          · rw [if_neg e1]
            by_cases e2 : i = j
            · subst e2
              rw [if_pos rfl, hy K hKn, if_neg (by omega), if_pos (by omega)]
              congr 1; omega
            · rw [if_neg e2, hy i hi]
              by_cases e3 : i < j ∨ n - 1 - i < j
              · rw [if_pos e3, if_pos (by omega)]
              · rw [if_neg e3, if_neg (by omega)]
        · first
            | exact OwnI.keep (w' := World.drew _) ((hO.out.set (by rw [hY.out.1]; exact hjn) _).set (by rw [List.length_set, hY.out.1]; exact hKn) _) rfl
            | exact ((hO.out.set (by rw [hY.out.1]; exact hjn) _).set (by rw [List.length_set, hY.out.1]; exact hKn) _)
        · first
            | exact ((hB.out.setCell (p := ⟨g, j, none⟩) hBg _).setCell (p := ⟨g, K, none⟩) hBg _).drew
            | exact ((hB.out.setCell (p := ⟨g, j, none⟩) hBg _).setCell (p := ⟨g, K, none⟩) hBg _)
      case measure => simp [intOf]; omega
    · go_wp2
      go_end0
      have hy := hY.out.2
      have hl2 := hY.out.1
      have e : ys = xs.reverse := by
        apply List.ext_getElem (by rw [List.length_reverse, Hl.out]; omega)
        intro i h2 h3
        have h4 := hy i (by omega)
        rw [List.getElem_reverse, ← eI_lt h2, h4]
        have hxl := Hl.out
        by_cases e3 : i < j ∨ n - 1 - i < j
        · rw [if_pos e3, eI_lt (by omega)]
          simp only [hxl]
        · rw [if_neg e3, eI_lt (by omega)]
          congr 1
          omega
      exact ⟨rfl, by rw [← e]; exact hO.out, hB.out⟩

end Go.Proofs.Ytbimllpfbgjajaa
