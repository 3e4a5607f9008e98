/- Sets of edges in the program: codeOfEdges. -/
import Derived.Test.YtfdlhdgmbjdhbaaImplG
import Derived.Test.YtfdlhdgmbjdhbaaSetI
import Derived.Test.YtfdlhdgmbjdhbaaEdgM
namespace Go.Proofs.Ytfdlhdgmbjdhbaa
open Go.RowKit





end Go.Proofs.Ytfdlhdgmbjdhbaa
