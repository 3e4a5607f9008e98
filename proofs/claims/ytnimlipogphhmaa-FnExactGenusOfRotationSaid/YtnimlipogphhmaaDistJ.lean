/- DistanceOf in the program. -/
import Derived.Test.YtnimlipogphhmaaDist
import Derived.Deep.RegionWith
import Derived.Deep.DeepCutAuto
namespace Go.Proofs.Ytnimlipogphhmaa
open Go.RowKit

set_option maxRecDepth 100000 in
set_option maxHeartbeats 2000000 in
theorem iNoEdge_any (w : World) : Calls Try.prog 97 #[] w fun e w' => e = .returned (.agg #[.int .i64 0, .int .i64 0]) ∧ Below w.heap.size w w' := by
  go_enter Try.func97, Try.ntmps97
  go_wp2
  exact bodyPost_ret (results_cell_row rfl _ _ w.heap.size _ _ _ _ rfl (heap_alloc_new _ _) Try.underlying56 rfl (by kernel_rfl)) rfl ⟨rfl, on_alloc _ _⟩

/-- Distances with all edges, where no edge joins a vertex to itself. -/
theorem iDistAll_any (N : Nat) (a : Int) (b off n c : Nat) (es : List (Int × Int)) (w : World) (hn : es.length = n) (hn30 : n ≤ 30) (hb : b < w.heap.size) (hr : ReadsE w b off es) (he : EndsIn N es) (hne : ∀ i, i < es.length → eA es i ≠ eB es i) (hN : 1 ≤ N ∧ N ≤ 20) (ha : 0 ≤ a ∧ a < N) :
    Calls Try.prog 33 #[.agg #[.int .i64 N, .slice (some ⟨b, off, none⟩) n c], .int .i64 a, .agg #[.int .i64 0, .int .i64 0]] w fun e w' => ∃ g, e = .returned (.slice (some ⟨g, 0, none⟩) N N) ∧ w.heap.size ≤ g ∧ OwnI w' g N (farF N es (fun _ => true) a) ∧ Below w.heap.size w w' :=
  iDist_any N a 0 0 b off n c es w hn hn30 hb hr he hN ha (fun _ => true) (fun e h => by
    have := hne e h
    by_cases h1 : eA es e = 0
    · have h2 : eB es e ≠ 0 := fun h3 => this (by rw [h1, h3])
      simp [h1, h2]
    · simp [h1])

end Go.Proofs.Ytnimlipogphhmaa
