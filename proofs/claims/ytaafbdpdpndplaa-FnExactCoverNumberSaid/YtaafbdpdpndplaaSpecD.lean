/- The model's look at a graph and vertices, and its other ends. -/
import Derived.Test.YtaafbdpdpndplaaSpecC
namespace Go.Proofs.Ytaafbdpdpndplaa
open Go.RowKit

theorem reads_one (w : World) (v : Int) (t : TypeId) (g : Nat) (hg : g = w.heap.size) : ReadsI (w.alloc (.cells #[.int .i64 v] t)) g 0 [v] := fun i hi => by
  subst hg
  obtain rfl : i = 0 := by simpa using hi
  simp [eI]


/-- The code of a graph and vertices. -/
def vertsCode (s : Int) (es : List (Int × Int)) (xs : List Int) : Int := if IsG s es then (if ∀ i, i < xs.length → 0 ≤ eI xs i ∧ eI xs i < s then 0 else 2) else 1

theorem verts_one (s : Int) (es : List (Int × Int)) (v : Int) : vertsCode s es [v] = if IsG s es then (if 0 ≤ v ∧ v < s then 0 else 2) else 1 := by
  unfold vertsCode
  by_cases h : IsG s es
  · rw [if_pos h, if_pos h]
    by_cases h2 : 0 ≤ v ∧ v < s
    · rw [if_pos h2, if_pos (fun i hi => by obtain rfl : i = 0 := by simpa using hi
                                            simpa [eI] using h2)]
    · rw [if_neg h2, if_neg (fun e => h2 (by simpa [eI] using e 0 (by simp)))]
  · rw [if_neg h, if_neg h]

set_option maxRecDepth 100000 in
set_option maxHeartbeats 1000000 in
theorem sOther_any (s e v : Int) (b off n c k : Nat) (es : List (Int × Int)) (w : World) (hm : n ≤ 9223372036854775807) (hlen : es.length = n) (hr : ReadsE w b off es) (he : e = k) (hk : k < n)
    (ha : 0 ≤ eA es k ∧ eA es k ≤ 1000) (hb : 0 ≤ eB es k ∧ eB es k ≤ 1000) (hv : 0 ≤ v ∧ v ≤ 1000) :
    Calls Try.prog 33 #[.agg #[.int .i64 s, .slice (some ⟨b, off, none⟩) n c], .int .i64 e, .int .i64 v] w fun e w' => e = .returned (.int .i64 (eA es k + eB es k - v)) ∧ Below w.heap.size w w' := by
  subst he
  have Hl := hid hlen
  have h1 := (hr k (by omega)).1
  have h2 := (hr k (by omega)).2
  have hbb : b < w.heap.size := reads_lt hr (by omega)
  have a1 := ha.1
  have a2 := ha.2
  have b1 := hb.1
  have b2 := hb.2
  have v1 := hv.1
  have v2 := hv.2
  clear ha hb hv hlen hr
  have e1 : IntKind.i64.wrap (eA es k + eB es k) = eA es k + eB es k := IntWalk.i64_in _ (by omega)
  have e2 : IntKind.i64.wrap (eA es k + eB es k - v) = eA es k + eB es k - v := IntWalk.i64_in _ (by omega)
  go_enter Try.func33, Try.ntmps33
  go_wp2
  go_quiet (fail)
  go_wp2
  go_ret
  exact ⟨rfl, by simp only [bdn]; go_grown⟩

end Go.Proofs.Ytaafbdpdpndplaa
