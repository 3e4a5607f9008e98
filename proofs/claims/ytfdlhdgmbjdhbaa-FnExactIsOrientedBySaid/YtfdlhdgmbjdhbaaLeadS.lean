/- Leaders in the model: l01Leaders. -/
import Derived.Test.YtfdlhdgmbjdhbaaLead
import Derived.Test.YtfdlhdgmbjdhbaaOwnMore
import Derived.Test.YtfdlhdgmbjdhbaaSpecC
import Derived.Deep.AppendLies
import Derived.Deep.DeepMust
import Derived.BigQuiet
namespace Go.Proofs.Ytfdlhdgmbjdhbaa
open Go.RowKit

theorem marksI_succ (i : Nat) : marksI 0 (i + 1) = marksI 0 i ++ [(i : Int)] := by
  unfold marksI
  rw [List.range_succ, List.map_append]
  simp

/-- The sum of a block's first numbers, read off the world. -/
def heapSum (w : World) (g N : Nat) : Nat := ((List.range N).map fun i => (intOf ((w.cell? ⟨g, i, none⟩).getD (.int .i64 0))).toNat).sum
theorem heapSum_own {w : World} {g cap N : Nat} {xs : List Int} (h : OwnI w g cap xs) (hl : xs.length = N) : heapSum w g N = sumL xs := by
  unfold heapSum sumL
  congr 1
  refine List.ext_getElem (by simp [hl]) fun i h1 h2 => ?_
  have hi : i < xs.length := by simpa using h2
  have := h.reads i hi
  rw [Nat.zero_add] at this
  simp [this, intOf, eI_lt hi]

def isT (v : Value) : Bool := match v with
  | .bool true => true
  | _ => false
def LeadPost (N : Nat) (es : List (Int × Int)) (w : World) (e : Ending) (w' : World) : Prop := ∃ g cap xs, e = .returned (.slice (some ⟨g, 0, none⟩) N cap) ∧ w.heap.size ≤ g ∧ OwnI w' g cap xs ∧ IsLead N es xs ∧ Below w.heap.size w w'

set_option maxRecDepth 100000 in
set_option maxHeartbeats 16000000 in
theorem sLeaders_any (N : Nat) (p : Option Addr) (n c : Nat) (es : List (Int × Int)) (w : World) (hn : es.length = n) (hn30 : n ≤ 30) (hN : N ≤ 20) (hr : SeesE w p es) (he : EndsIn N es) :
    Calls Try.prog 143 #[.int .i64 N, .slice p n c] w (LeadPost N es w) := by
  have Hn := hid hn
  have Hr := hid hr
  have EI := hid he
  obtain ⟨i0, hi, hz0, hz1, hz2⟩ := info_parts infoInt
  have Hi := hid hi
  clear hn hr he hi
  go_enter Try.func143, Try.ntmps143
  go_wp2
  go_loopw [5, 6] (fun u v wr => ∃ (i cap g : Nat), i ≤ N ∧ u = .slice (some ⟨g, 0, none⟩) i cap ∧ v = .int .i64 i ∧ Hid (OwnI wr g cap (marksI 0 i) ∧ w.heap.size ≤ g) ∧ Hid (Below w.heap.size w wr)) (fun _ v _ => N - (intOf v).toNat)
  case atStart => exact ⟨0, 0, _, Nat.zero_le _, rfl, rfl, hid ⟨own_nil _ _ rfl, Nat.le_refl _⟩, hid (on_alloc _ _)⟩
  case round =>
    obtain ⟨i, cap, g, hi, rfl, rfl, hC, hB⟩ := hrel
    have hgz := hC.out.1.lt
    by_cases hlt : i < N
    · obtain ⟨wo, rfl⟩ : ∃ wo : World, wo = wr := ⟨_, rfl⟩
      have hwz := hB.out.size
      go_wp2_with (at_builtin; go_must (refine wpList_append_lies _ rfl (.tmp 17) (.tmp 19) 41 rfl w.heap.size 2 i0 (.int .i64 0) 1 8 Try.underlying41 Hi.out hz0 hz1 hz2 rfl (by decide) (.slice (some ⟨g, 0, none⟩) i cap) i _ rfl (OwnI.row (hC.out.1.alloc _) (marksI_length 0 i) hC.out.2) ⟨wo.heap.size, 0, none⟩ 1 1 [.int .i64 i] rfl rfl (World.news_of_block (cs := #[.int .i64 i]) (t := 2) (fr := (0, 0)) (heap_alloc_new _ _)) (by simp [Value.oneCell']) (by decide) (by unfold maxLen; omega) (by omega) (by simp; omega) (wo.heap.size + 1) (by simp) ?_); intro g1 cap1 w1 hown1 hgrow1 hlie hg1; have Hown := hid hown1; have Hgrow := hid hgrow1; clear hown1 hgrow1 hlie)
      go_roundw
      case rel =>
        obtain ⟨o1, o2⟩ := OwnI.of_row (xs := marksI 0 (i + 1)) (n := i + 1) (by rw [marksI_succ, intVals_append]; exact Hown.out) (marksI_length 0 (i + 1))
        exact ⟨i + 1, cap1, g1, by omega, rfl, by go_num, hid ⟨o1, o2⟩, hid ((hB.out.alloc hwz _).grown Hgrow.out (by simp; omega) (fun j hj => by cases hj; exact hC.out.2))⟩
      case measure => simp [intOf]; omega
    · obtain ⟨wk, rfl⟩ : ∃ wk : World, wk = wr := ⟨_, rfl⟩
      have hiN := hid (show i = N by omega)
      have HC := hid (show OwnI wk g cap (marksI 0 N) ∧ w.heap.size ≤ g by rw [← hiN.out]; exact hC.out)
      have HIi := hiN
      go_wp2
      go_loopw [7] (fun m wr => ∃ (mb : Bool) (xs : List Int), m = .bool mb ∧ Hid (OwnI wr g cap xs ∧ LeadI N es xs ∧ (mb = false → ∀ j, j < n → eI xs (eA es j).toNat = eI xs (eB es j).toNat)) ∧ Hid (Below w.heap.size w wr)) (fun m wr => if isT m = true then heapSum wr g N + 1 else 0)
      case atStart => exact ⟨true, marksI 0 N, rfl, hid ⟨HC.out.1, leadI_zero N es, fun h => by cases h⟩, hB⟩
      case round =>
        obtain ⟨mb, xs0, rfl, hO, hB2⟩ := hrel
        cases mb
        · go_wp2
          go_ret
          exact (show LeadPost N es w _ wr from ⟨g, cap, xs0, by rw [← HIi.out]; rfl, HC.out.2, hO.out.1, ⟨hO.out.2.1, fun j hj => hO.out.2.2 trivial j (by rw [← Hn.out]; exact hj)⟩, hB2.out⟩)
        · obtain ⟨wq, rfl⟩ : ∃ wq : World, wq = wr := ⟨_, rfl⟩
          go_wp2
          go_loopw [7, 8] (fun m v wr => ∃ (mb : Bool) (xs : List Int) (k : Nat), k ≤ n ∧ m = .bool mb ∧ v = .int .i64 k ∧ Hid (OwnI wr g cap xs ∧ LeadI N es xs ∧ (mb = false → xs = xs0 ∧ ∀ j, j < k → eI xs (eA es j).toNat = eI xs (eB es j).toNat) ∧ (mb = true → sumL xs < sumL xs0)) ∧ Hid (Below w.heap.size w wr)) (fun _ v _ => n - (intOf v).toNat)
          case atStart => exact ⟨false, xs0, 0, Nat.zero_le _, rfl, rfl, hid ⟨hO.out.1, hO.out.2.1, fun _ => ⟨rfl, fun j hj => by omega⟩, (fun h => by cases h)⟩, hB2⟩
          case round =>
            obtain ⟨mb, xs, k, hk, rfl, rfl, hP, hB3⟩ := hrel
            by_cases hlt2 : k < n
            · obtain ⟨b, off, rfl, hrd⟩ : ∃ b off, p = some ⟨b, off, none⟩ ∧ ReadsE w b off es := by
                rcases Hr.out with h | h
                · have := Hn.out; rw [h] at this; simp at this; omega
                · exact h
              have hre := hrd.on hB3.out
              have hbb := reads_lt hre (by have := Hn.out; omega)
              have hbw := reads_lt hrd (by have := Hn.out; omega)
              have hbg : ¬ b = g := by have := HC.out.2; omega
              have hc1 := (hre k (by have := Hn.out; omega)).1
              have hc2 := (hre k (by have := Hn.out; omega)).2
              have hek := EI.out k (by have := Hn.out; omega)
              obtain ⟨X, hX⟩ : ∃ X : Nat, eA es k = X := ⟨_, (Int.toNat_of_nonneg hek.1.1).symm⟩
              obtain ⟨Y, hY⟩ : ∃ Y : Nat, eB es k = Y := ⟨_, (Int.toNat_of_nonneg hek.2.1).symm⟩
              have hXN : X < N := by omega
              have hYN : Y < N := by omega
              have hXi : (X : Int) < (i : Int) := by have := HIi.out; omega
              have hYi : (Y : Int) < (i : Int) := by have := HIi.out; omega
              have hXi' : X < i := by omega
              have hYi' : Y < i := by omega
              rw [hX] at hc1
              rw [hY] at hc2
              have hm1 := hP.out.1.reads X (by rw [hP.out.2.1.len]; exact hXN)
              have hm2 := hP.out.1.reads Y (by rw [hP.out.2.1.len]; exact hYN)
              have hf1 := hP.out.1.free X
              have hf2 := hP.out.1.free Y
              have hgz3 := hP.out.1.lt
              rw [Nat.zero_add] at hm1 hm2
              obtain ⟨a, ha⟩ : ∃ a, eI xs X = a := ⟨_, rfl⟩
              obtain ⟨d, hd⟩ : ∃ d, eI xs Y = d := ⟨_, rfl⟩
              rw [ha] at hm1
              rw [hd] at hm2
              have HXA := hid hX
              have HYA := hid hY
              have HA := hid ha
              have HD := hid hd
              have HRe := hid hre
              clear hX hY hek ha hd hrd hre
              obtain ⟨wo, rfl⟩ : ∃ wo : World, wo = wr := ⟨_, rfl⟩
              by_cases hne : a = d
              · have hneq : (a != d) = false := by simpa using hne
                have HNE := hid hne
                clear hne
                go_wp2
                go_quiet (fail)
                go_wp2
                go_roundw
                case rel =>
                  refine ⟨mb, xs, k + 1, by omega, rfl, by go_num, hid ⟨OwnI.drewN hP.out.1, hP.out.2.1, fun hmf => ⟨(hP.out.2.2.1 hmf).1, fun j hj => ?_⟩, hP.out.2.2.2⟩, hid (bdn.mpr hB3.out)⟩
                  rcases Nat.lt_or_ge j k with h | h
                  · exact (hP.out.2.2.1 hmf).2 j h
                  · obtain rfl : j = k := by omega
                    rw [HXA.out, HYA.out, Int.toNat_natCast, Int.toNat_natCast, HA.out, HD.out, HNE.out]
                case measure => simp [intOf]; omega
              · have hneq : (a != d) = true := by simpa using hne
                have HNE := hid hne
                clear hne
                rcases Int.lt_or_le d a with hda | hda
                · have HST := hid (hP.out.2.1.step (i := k) (by have := Hn.out; omega) HXA.out HYA.out hXN hYN HA.out HD.out (show d = min a d by omega) HNE.out)
                  have hXY : ¬ X = Y := fun e => HNE.out (by rw [← HA.out, ← HD.out, e])
                  have hYX : ¬ Y = X := fun e => hXY e.symm
                  go_wp2
                  go_quiet (fail)
                  go_wp2
                  go_roundw
                  case rel =>
                    refine ⟨true, _, k + 1, by omega, rfl, by go_num, hid ⟨OwnI.set (OwnI.set (OwnI.drewN hP.out.1) (by rw [hP.out.2.1.len]; exact hXN) d) (by rw [List.length_set, hP.out.2.1.len]; exact hYN) d, HST.out.1, (fun h => by cases h), fun _ => ?_⟩, hid (((bdn.mpr hB3.out).setCell (p := ⟨g, X, none⟩) HC.out.2 _).setCell (p := ⟨g, Y, none⟩) HC.out.2 _)⟩
                    have h1 := HST.out.2
                    cases mb
                    · rw [(hP.out.2.2.1 rfl).1] at h1 ⊢; exact h1
                    · have := hP.out.2.2.2 rfl; omega
                  case measure => simp [intOf]; omega
                · have HST := hid (hP.out.2.1.step (i := k) (by have := Hn.out; omega) HXA.out HYA.out hXN hYN HA.out HD.out (show a = min a d by omega) HNE.out)
                  have hda' : ¬ d < a := by omega
                  have hXY : ¬ X = Y := fun e => HNE.out (by rw [← HA.out, ← HD.out, e])
                  have hYX : ¬ Y = X := fun e => hXY e.symm
                  go_wp2
                  go_quiet (fail)
                  go_wp2
                  go_roundw
                  case rel =>
                    refine ⟨true, _, k + 1, by omega, rfl, by go_num, hid ⟨OwnI.set (OwnI.set (OwnI.drewN hP.out.1) (by rw [hP.out.2.1.len]; exact hXN) a) (by rw [List.length_set, hP.out.2.1.len]; exact hYN) a, HST.out.1, (fun h => by cases h), fun _ => ?_⟩, hid (((bdn.mpr hB3.out).setCell (p := ⟨g, X, none⟩) HC.out.2 _).setCell (p := ⟨g, Y, none⟩) HC.out.2 _)⟩
                    have h1 := HST.out.2
                    cases mb
                    · rw [(hP.out.2.2.1 rfl).1] at h1 ⊢; exact h1
                    · have := hP.out.2.2.2 rfl; omega
                  case measure => simp [intOf]; omega
            · have hkn := hid (show k = n by omega)
              go_wp2
              go_roundw
              case rel => exact ⟨mb, xs, rfl, hid ⟨hP.out.1, hP.out.2.1, fun h j hj => (hP.out.2.2.1 h).2 j (by have := hkn.out; omega)⟩, hB3⟩
              case measure =>
                have h1 := heapSum_own hP.out.1 hP.out.2.1.len
                have h2 := heapSum_own hO.out.1 hO.out.2.1.len
                cases mb
                · simp [isT]
                · have := hP.out.2.2.2 rfl
                  simp only [isT, if_true, h1, h2]
                  omega

end Go.Proofs.Ytfdlhdgmbjdhbaa
