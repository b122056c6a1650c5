/- spec.EndAt answers the end of the line. -/
import Derived.Test.YtlfamgdmmenonaaDoorOvr
namespace Go.Proofs.YtlfamgdmmenonaaDoor
open Go.ChangeShapes Go.WideShapes Go.ChangeAt Go.RowKit
end Go.Proofs.YtlfamgdmmenonaaDoor
