/- spec.EndAt answers the end of the line. -/
import Derived.Test.YtcajfnhbfciahakDoorOvr
namespace Go.Proofs.YtcajfnhbfciahakDoor
open Go.ChangeShapes Go.WideShapes Go.ChangeAt Go.RowKit
end Go.Proofs.YtcajfnhbfciahakDoor
