/- spec.EndAt answers the end of the line. -/
import Derived.Test.YtleajpkdikcfpalDoorOvr
namespace Go.Proofs.YtleajpkdikcfpalDoor
open Go.ChangeShapes Go.WideShapes Go.ChangeAt Go.RowKit
end Go.Proofs.YtleajpkdikcfpalDoor
