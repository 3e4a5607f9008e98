/- The least list that suits, in the program: leastFor, different. -/
import Derived.Test.YtonlpihbpbnnmaaGoJ
namespace Go.Proofs.Ytonlpihbpbnnmaa
open Go.RowKit

theorem own_room {ZC : Array Value} (w : World) (g n : Nat) (hZ : ZC = madeCells (Value.int .i64 0).cells (n * 1)) (hg : g = w.heap.size) (hn : n ≤ 60) : OwnI (w.alloc (.cells ZC 2)) g n [] := by
  subst hZ hg
  exact ⟨_, heap_alloc_new w _, by rw [size_madeCells, Nat.mul_one], by simp, by unfold maxLen; omega, fun i hi => absurd hi (by simp)⟩

/-- What the search for the least list hands back. -/
def LfP (k : Nat) (d : Int) (M : Nat → Nat → Bool) (n : Nat) (q : Option Addr) (l c : Nat) (fnd : Bool) (w w' : World) : Prop :=
  Below w.heap.size w w' ∧
    ((fnd = true ∧ (l = n ∧ c = n) ∧ ∃ g zs, q = some ⟨g, 0, none⟩ ∧ w.heap.size ≤ g ∧ leastL k d M n = some zs ∧ OwnI w' g n zs ∧ zs.length = n) ∨
     (fnd = false ∧ (q = none ∧ l = 0 ∧ c = 0) ∧ leastL k d M n = none))
def LfPost (k : Nat) (d : Int) (M : Nat → Nat → Bool) (n : Nat) (w : World) (e : Ending) (w' : World) : Prop :=
  ∃ q l c fnd, e = .returned (.tuple #[.slice q l c, .bool fnd]) ∧ LfP k d M n q l c fnd w w'

set_option maxRecDepth 100000 in
set_option maxHeartbeats 8000000 in
theorem iLeastFor_any (k : Nat) (d : Int) (M : Nat → Nat → Bool) (n mc : Nat) (qr : Option Addr) (w : World) (hk : 1 ≤ k ∧ k ≤ 60) (hd : 0 ≤ d ∧ d ≤ 1000) (h1n : 1 ≤ n) (hn2 : n ≤ 50) (hrr : SeesL w qr (rowsM M n)) :
    Calls Try.prog 76 #[.agg #[.int .i64 k, .int .i64 d], .slice qr n mc] w (LfPost k d M n w) := by
  obtain ⟨br, orr, rfl, hrl⟩ : ∃ b off, qr = some ⟨b, off, none⟩ ∧ ReadsL w b off (rowsM M n) := by
    rcases hrr with h | h
    · have := rowsM_len M n; rw [h] at this; simp at this; omega
    · exact h
  have Hrl := hid hrl
  obtain ⟨j0, hj, hy0, hy1, hy2⟩ := info_parts infoInt
  obtain ⟨ZC, hZC⟩ : ∃ ZC, ZC = madeCells (Value.int .i64 0).cells (n * 1) := ⟨_, rfl⟩
  have hmk : ∀ w', (Instr.makeSlice 34 (.int .i64 0) (.int .i64 n)).run Try.prog w' = .ok (.slice (some ⟨w'.heap.size, 0, none⟩) 0 n) (w'.alloc (.cells ZC 2)) := fun w' => by
    have h := run_makeSlice (P := Try.prog) w' 34 2 j0 (.int .i64 0) Try.underlying34 hj hy0 .i64 .i64 0 n (by omega) (by omega) (by rw [hy1]; omega) (by rw [hy2]; omega) (by omega)
    rw [hy1] at h
    rw [hZC]
    simpa using h
  have HZC := hid hZC
  clear hrr hrl hj hZC
  have HX := hid (Circ.new w k d)
  have HB1 := hid (on_alloc w (.cells #[.int .i64 k, .int .i64 d] 74))
  have hx0 := HX.out.c0
  have hx1 := HX.out.c1
  go_enter Try.func76, Try.ntmps76
  go_wp2
  go_region_with (go_at_call 128; refine (iGoOn_any k d M n (w.heap.size + 1) br orr mc w hk hd hn2 Hrl.out (by omega) n [] 0 _ rfl (by omega) (suit_nil _ _ _) (by first | exact bfrom HB1.out (on_alloc _ _) | exact bfrom HB1.out.drew (on_alloc _ _) | exact (bfrom HB1.out (on_alloc _ _)).drew) (by first | exact own_room _ _ n HZC.out (by simp) (by omega) | exact (own_room _ _ n HZC.out (by simp) (by omega)).keep rfl)).mono ?_; rintro e' w7 ⟨q, l, c, R, fnd, rfl, h7⟩; have H7 := hid h7; clear h7)
  all_goals
    have HL := hid (show LfP k d M n q l c fnd w w7 by
      obtain ⟨h1, h2⟩ := H7.out
      refine ⟨⟨h1.os, h1.tape, h1.output, Nat.le_trans (by simp <;> omega) h1.size, fun j hj => (h1.block j (by simp; omega) (fun e => by have := Option.some.inj e; omega)).trans ?_⟩, ?_⟩
      · first
          | exact (bfrom HB1.out (on_alloc _ _)).block j hj
          | exact (bfrom HB1.out.drew (on_alloc _ _)).block j hj
      · rcases h2 with ⟨a, ⟨b1, b2, b3, b4⟩, zs, c, d, e⟩ | ⟨a, ⟨b1, b2, b3⟩, c, d, e⟩
        · exact .inl ⟨a, ⟨b2, b3⟩, _, zs, b1, by omega, c, d, e⟩
        · exact .inr ⟨a, ⟨b1, b2, b3⟩, d.none (r := n) (suit_nil _ _ _) (by simp)⟩)
    clear H7
    go_wp2
    go_ret2
    first
      | exact ⟨q, l, c, fnd, rfl, HL.out⟩
      | done

set_option maxRecDepth 100000 in
set_option maxHeartbeats 2000000 in
theorem iDifferent_any (k : Int) (w : World) :
    Calls Try.prog 75 #[.int .i64 k] w fun r w' => r = .returned (.agg #[.int .i64 k, .int .i64 1]) ∧ Below w.heap.size w w' := by
  go_enter Try.func75, Try.ntmps75
  go_wp2
  refine bodyPost_ret (v := .agg #[.int .i64 k, .int .i64 1]) (by simp [results, Try.results75, go_sem]) rfl ⟨rfl, ?_⟩
  have := Below.refl w.heap.size w
  go_grown

end Go.Proofs.Ytonlpihbpbnnmaa
