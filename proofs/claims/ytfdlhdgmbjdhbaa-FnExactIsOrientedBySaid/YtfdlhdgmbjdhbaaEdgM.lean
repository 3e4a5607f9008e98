/- Sets of edges in the model: l03Edges. -/
import Derived.Test.YtfdlhdgmbjdhbaaLeaveS
import Derived.Deep.RegionWith
import Derived.Deep.RegionHeld3
import Derived.Deep.DeepCutAuto
namespace Go.Proofs.Ytfdlhdgmbjdhbaa
open Go.RowKit

def edgesCode (s : Int) (es : List (Int × Int)) (xs : List Int) : Int := if IsG s es then setCode es.length xs else 1




end Go.Proofs.Ytfdlhdgmbjdhbaa
