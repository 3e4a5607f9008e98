/- IsMatching in the model and in the program. -/
import Derived.Test.YtpadnliebimceaaMatS
import Derived.Test.YtpadnliebimceaaMatI
import Derived.Test.YtpadnliebimceaaImplG
namespace Go.Proofs.Ytpadnliebimceaa
open Go.RowKit

theorem sMatIs_any (s : Int) (p ps : Option Addr) (n c k f : Nat) (es : List (Int × Int)) (xs : List Int) (w : World) (g : IsG s es) (hn : es.length = n) (hr : SeesE w p es) (hk9 : k ≤ 1048576) (hx : xs.length = k) (hrx : SeesI w ps xs) :
    Calls Try.prog 43 #[.agg #[.int .i64 s, .slice p n c], .slice ps k f] w fun e' w' => e' = .returned (.bool (decide (isMatP s es xs))) ∧ Below w.heap.size w w' := by
  obtain ⟨N, rfl⟩ : ∃ N : Nat, s = N := ⟨_, (Int.toNat_of_nonneg (by have := g.1.1.1; omega)).symm⟩
  obtain ⟨b, off, rfl, rd⟩ := isG_sees g hr
  exact sMat_loop N b off n c k f ps es xs w hn rd hx hk9 hrx g







end Go.Proofs.Ytpadnliebimceaa
