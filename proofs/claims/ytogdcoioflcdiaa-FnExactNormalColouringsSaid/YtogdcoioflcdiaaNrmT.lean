/- The normal colourings in the model: l02Normal; HasColouring. -/
import Derived.Test.YtogdcoioflcdiaaNrmS
import Derived.Test.YtogdcoioflcdiaaSpecD
namespace Go.Proofs.Ytogdcoioflcdiaa
open Go.RowKit

theorem tkL_top (M : Nat) (U : List (List Int)) : tkL [] M U = U.take M := by simp [tkL]
/-- What l02Normal leaves: no more than M of the normal colourings, in memory of its own. -/
def NormPost (Us : List (List Int)) (w : World) (e' : Ending) (w' : World) : Prop := ∃ q cap vals, e' = .returned (.slice q Us.length cap) ∧ RowsM w' w.heap.size Us cap q vals ∧ Below w.heap.size w w'

set_option maxRecDepth 100000 in
set_option maxHeartbeats 4000000 in
theorem sNormal_any (s : Int) (b off n c most : Nat) (es : List (Int × Int)) (w : World) (hn : es.length = n) (g : IsG s es) (hr : ReadsE w b off es) (hm : most ≤ 1000) :
    Calls Try.prog 88 #[.agg #[.int .i64 s, .slice (some ⟨b, off, none⟩) n c], .int .i64 most] w fun e' w' => NormPost ((nrmL es).take (most + 1)) w e' w' := by
  have hb : b < w.heap.size := reads_lt hr (by have := three_leN g; omega)
  have Hn := hid hn
  have Hr := hid hr
  have G := hid g
  obtain ⟨w3, hw3⟩ : ∃ w3, w3 = ((w.alloc (.cells #[.int .i64 s, .slice (some ⟨b, off, none⟩) n c] 31)).alloc (.cells #[] 2)).alloc (.cells #[] 25) := ⟨_, rfl⟩
  have HB3 := hid (show Below w.heap.size w w3 by rw [hw3]; exact bfrom (bfrom (on_alloc _ _) (on_alloc _ _)) (on_alloc _ _))
  have HO3 := hid (show OwnI w3 (w.heap.size + 1) 0 [] by
    rw [hw3]
    have h := heap_alloc_new (w.alloc (.cells #[.int .i64 s, .slice (some ⟨b, off, none⟩) n c] 31)) (.cells #[] 2)
    rw [World.size_alloc] at h
    exact OwnI.alloc (show OwnI ((w.alloc (.cells #[.int .i64 s, .slice (some ⟨b, off, none⟩) n c] 31)).alloc (.cells #[] 2)) (w.heap.size + 1) 0 [] from ⟨#[], h, rfl, Nat.le_refl _, by unfold maxLen; omega, fun i hi => by simp at hi⟩) _)
  have HR3 := hid (show RowsM w3 w.heap.size [] 0 (some ⟨w.heap.size + 1 + 1, 0, none⟩) [] by
    rw [hw3]
    have h := World.ownsRow_made (base := w.heap.size) (e := 25) (size := 1) ((w.alloc (.cells #[.int .i64 s, .slice (some ⟨b, off, none⟩) n c] 31)).alloc (.cells #[] 2)) #[] 0 (by simp; omega) (Nat.zero_le _) rfl
    simp only [World.size_alloc] at h
    exact RowsM.nil h)
  have hz3 := HB3.out.size
  obtain ⟨Us, hU⟩ : ∃ Us, (nrmL es).take (most + 1) = Us := ⟨_, rfl⟩
  rw [hU]
  have HU := hid hU
  clear hn hr g hU
  go_enter Try.func88, Try.ntmps88
  go_wp2_with fail
  rw [← hw3]
  clear hw3
  refine (sList_any s b off n c w.heap.size most es G.out Hn.out hb hm n [] 0 (w.heap.size + 1) 0 0 [] 0 (some ⟨w.heap.size + 1 + 1, 0, none⟩) [] w3 rfl (by omega) HO3.out (Hr.out.on HB3.out) HR3.out rfl (by omega) hz3).mono ?_
  rintro e' w4 ⟨q4, cap4, vals4, rfl, hr4, hg4, hs4⟩
  rw [tkL_top, ← Hn.out, nm_nrm G.out] at hr4 ⊢
  rw [HU.out] at hr4 ⊢
  have HR4 := hid hr4
  have HB4 := hid (show Below w.heap.size w w4 from HB3.out.trans ⟨hg4.os, hg4.tape, hg4.output, hg4.size, fun i hi => hg4.block i (by omega) (fun e => by have : i = w.heap.size + 1 + 1 := Option.some.inj e; omega)⟩)
  clear hr4 hg4 hs4
  go_wp2
  go_ret
  exact ⟨q4, cap4, vals4, rfl, HR4.out, HB4.out⟩

def fHasColouring (s : Int) (es : List (Int × Int)) : Bool × Int := if IsG s es then (decide (nrmL es ≠ []), 0) else (false, 1)


end Go.Proofs.Ytogdcoioflcdiaa
