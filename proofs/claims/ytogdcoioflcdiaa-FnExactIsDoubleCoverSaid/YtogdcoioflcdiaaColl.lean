/- Defers of ranges over functions inside a loop. -/
import Derived.Test.YtogdcoioflcdiaaPlain
import Derived.RangeFuncNested
import Derived.RangeFuncBound
import Derived.RangeFuncCalls
import Derived.RangeFuncLeaves
import Derived.RangeFuncWrites
import Derived.Shelf.RegionOpen
import Derived.Test.YtogdcoioflcdiaaProg
namespace Go.Proofs.Ytogdcoioflcdiaa
open Go.RowKit Go.Shelf

/-- The defers of several ranges over functions, each done. -/
def colls (Ds : List Nat) : List Deferred := Ds.map fun D => { target := .collected D, args := #[] }
theorem leaves_colls {F : Fence} {n : Nat} {fn : Func} {tmps : Array Value} {R : Ending → World → Prop} {v : Value} (hv : ∀ w', (results fn tmps).run Try.prog w' = .ok v w') :
    ∀ (Ds : List Nat) (w : World), Ds.Nodup → (∀ D, D ∈ Ds → w.heap[D]? = some (.deferred (some []))) → (∀ w', w'.os = w.os → w'.tape = w.tape → w'.output = w.output → w'.heap.size = w.heap.size → (∀ k, k ∉ Ds → w'.heap[k]? = w.heap[k]?) → R (.returned v) w') →
    LeavesInM F n Try.prog fn tmps R (colls Ds) .returning w
  | [], w, _, _, hR => ⟨v, hv w, hR w rfl rfl rfl rfl (fun _ _ => rfl)⟩
  | D :: Ds, w, hn, hD, hR => by
    have hK := hD D (by simp)
    obtain ⟨hn1, hn2⟩ := List.nodup_cons.1 hn
    refine ⟨by simp, .inl ⟨D, _, rfl, run_takeDeferred hK, ?_⟩⟩
    refine leaves_colls hv Ds _ hn2 (fun D' h' => ?_) (fun w' h1 h2 h3 h4 h5 => ?_)
    · have hne : D' ≠ D := fun e => hn1 (e ▸ h')
      have h6 := hD D' (by simp [h'])
      simp only [World.putObj]
      rw [Array.getElem?_setIfInBounds, if_neg (fun e => hne e.symm)]
      exact h6
    · refine hR w' (by rw [h1]; rfl) (by rw [h2]; rfl) (by rw [h3]; rfl) (by rw [h4]; simp [World.putObj]) (fun k hk => ?_)
      rw [h5 k (fun h => hk (by simp [h]))]
      have hne : k ≠ D := fun e => hk (by simp [e])
      simp only [World.putObj]
      rw [Array.getElem?_setIfInBounds, if_neg (fun e => hne e.symm)]

end Go.Proofs.Ytogdcoioflcdiaa
