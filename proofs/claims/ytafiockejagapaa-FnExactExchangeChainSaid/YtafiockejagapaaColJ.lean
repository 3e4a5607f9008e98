/- IsColouring in the program. -/
import Derived.Test.YtafiockejagapaaColI
namespace Go.Proofs.Ytafiockejagapaa
open Go.RowKit




end Go.Proofs.Ytafiockejagapaa
