/- IsConnected in the program. -/
import Derived.Test.YtafhpldcpgjpjaaPartsI
import Derived.Test.YtafhpldcpgjpjaaPartsS
import Derived.Test.YtafhpldcpgjpjaaImplG
namespace Go.Proofs.Ytafhpldcpgjpjaa
open Go.RowKit

theorem isG_block {N : Nat} {es : List (Int × Int)} {w : World} {b off : Nat} (g : IsG N es) (hr : ReadsE w b off es) : b < w.heap.size := reads_lt hr (by have := isG_len g; have := g.1.1.2.2.2; have := g.1.1.1; omega)
theorem isG_diff {N : Nat} {es : List (Int × Int)} (g : IsG N es) : ∀ i, i < es.length → eA es i ≠ eB es i := fun _ hi => isG_ne g hi
theorem isG_twenty {N : Nat} {es : List (Int × Int)} (g : IsG N es) : 1 ≤ N ∧ N ≤ 20 := by have := g.1.1.1; have := g.1.1.2.1; omega

set_option maxRecDepth 100000 in
set_option maxHeartbeats 4000000 in
theorem iIsConnected_any (s : Int) (p : Option Addr) (n c : Nat) (es : List (Int × Int)) (w : World) (hm : n ≤ 1048576) (hl : es.length = n) (hr : SeesE w p es) :
    Calls Try.prog 25 #[.agg #[.int .i64 s, .slice p n c]] w fun e' w' => e' = .returned (.tuple #[.bool (fIsConnected s es).1, .int .i64 (fIsConnected s es).2]) ∧ Below w.heap.size w w' := by
  have Hn := hid hl
  have Hr := hid hr
  unfold fIsConnected
  by_cases g : IsG s es
  · rw [if_pos g]
    obtain ⟨N, rfl⟩ : ∃ N : Nat, s = N := ⟨_, (Int.toNat_of_nonneg (by have := g.1.1.1; omega)).symm⟩
    rw [Int.toNat_natCast]
    obtain ⟨b, off, rfl, rd⟩ := isG_sees g hr
    have hn30 : n ≤ 30 := by have := isG_len g; have := Hn.out; omega
    have G := hid g
    have HRd := hid rd
    clear g hl hr rd
    obtain ⟨m, hmm⟩ : ∃ m, numP N es = m := ⟨_, rfl⟩
    rw [hmm]
    have HM := hid hmm
    obtain ⟨r, hrr⟩ : ∃ r, (m == 1) = r := ⟨_, rfl⟩
    rw [hrr]
    have HRR := hid hrr
    clear hrr hmm
    go_enter Try.func25, Try.ntmps25
    go_wp2_with fail
    refine (iIsGraph_any _ _ _ _ es _ hm Hn.out (Hr.out.on (on_alloc _ _))).mono ?_
    rw [decide_eq_true G.out]
    rintro e w2 ⟨rfl, hb2⟩
    have HB2 := hid (bfrom (w := w) (on_alloc _ _) hb2)
    have hX2 := (Box.new w N (some ⟨b, off, none⟩) n c 31).on hb2
    have hx2 := hX2.1
    have hy2 := hX2.2
    have hz2 := hX2.lt
    clear hX2 hb2
    go_wp2_with fail
    refine (iParts_any N b off n c es _ Hn.out hn30 (isG_block G.out (HRd.out.on HB2.out)) (HRd.out.on HB2.out) (endsIn_of G.out) (isG_diff G.out) (isG_twenty G.out)).mono ?_
    rintro e w3 ⟨q, cap, vals, rfl, hP, hb3⟩
    rw [HM.out]
    have HB3 := hid (bfrom HB2.out hb3)
    clear hx2 hy2 hz2 hb3 hP
    have hc : ((m : Int) == 1) = r := by
      rw [← HRR.out]
      cases h1 : (m == 1)
      · have : m ≠ 1 := by simpa using h1
        simp
        omega
      · have : m = 1 := by simpa using h1
        subst this
        rfl
    go_wp2
    go_ret2
    exact ⟨rfl, HB3.out⟩
  · rw [if_neg g]
    have G := hid g
    clear g hl hr
    go_enter Try.func25, Try.ntmps25
    go_wp2_with fail
    refine (iIsGraph_any _ _ _ _ es _ hm Hn.out (Hr.out.on (on_alloc _ _))).mono ?_
    rw [decide_eq_false G.out]
    rintro e w2 ⟨rfl, hb2⟩
    have hB2 := bfrom (w := w) (by go_grown) hb2
    go_wp2
    go_ret2
    exact ⟨rfl, hB2⟩

end Go.Proofs.Ytafhpldcpgjpjaa
