/- spec.EndAt answers the end of the line. -/
import Derived.Test.YtleajpkdikcfpakDoorOvr
namespace Go.Proofs.YtleajpkdikcfpakDoor
open Go.ChangeShapes Go.WideShapes Go.ChangeAt Go.RowKit
end Go.Proofs.YtleajpkdikcfpakDoor
