/- IsColouring in the program. -/
import Derived.Test.YtjkemganbfldpaaColI
namespace Go.Proofs.Ytjkemganbfldpaa
open Go.RowKit




end Go.Proofs.Ytjkemganbfldpaa
