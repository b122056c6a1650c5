/- spec.EndAt answers the end of the line. -/
import Derived.Test.YtfbgdkfnidghcajDoorOvr
namespace Go.Proofs.YtfbgdkfnidghcajDoor
open Go.ChangeShapes Go.WideShapes Go.ChangeAt Go.RowKit
end Go.Proofs.YtfbgdkfnidghcajDoor
