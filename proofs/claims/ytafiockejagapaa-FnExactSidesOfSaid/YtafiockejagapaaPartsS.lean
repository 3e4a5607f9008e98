/- How many parts there are, in the model; whether a graph is connected. -/
import Derived.Test.YtafiockejagapaaLeadS
namespace Go.Proofs.Ytafiockejagapaa
open Go.RowKit



def fIsConnected (s : Int) (es : List (Int × Int)) : Bool × Int := if IsG s es then (numP s.toNat es == 1, 0) else (false, 1)


end Go.Proofs.Ytafiockejagapaa
