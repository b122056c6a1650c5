/- spec.EndAt answers the end of the line. -/
import Derived.Test.YtcajfnhbfciahajDoorOvr
namespace Go.Proofs.YtcajfnhbfciahajDoor
open Go.ChangeShapes Go.WideShapes Go.ChangeAt Go.RowKit
end Go.Proofs.YtcajfnhbfciahajDoor
