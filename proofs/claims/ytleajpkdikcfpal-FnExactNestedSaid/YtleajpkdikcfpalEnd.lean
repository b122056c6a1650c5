/- spec.EndAt answers the end of the line. -/
import Derived.Test.YtleajpkdikcfpalOvr
namespace Go.Proofs.Ytleajpkdikcfpal
open Go.ChangeShapes Go.WideShapes Go.ChangeAt Go.RowKit
end Go.Proofs.Ytleajpkdikcfpal
