/- spec.EndAt answers the end of the line. -/
import Derived.Test.YtfbgdkfnidghcakGreatDoorOvr
namespace Go.Proofs.YtfbgdkfnidghcakGreatDoor
open Go.ChangeShapes Go.WideShapes Go.ChangeAt Go.RowKit
end Go.Proofs.YtfbgdkfnidghcakGreatDoor
