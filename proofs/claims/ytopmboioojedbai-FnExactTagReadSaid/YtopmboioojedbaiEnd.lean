/- spec.EndAt answers the end of the line. -/
import Derived.Test.YtopmboioojedbaiOvr
namespace Go.Proofs.Ytopmboioojedbai
open Go.ChangeShapes Go.WideShapes Go.ChangeAt Go.RowKit
end Go.Proofs.Ytopmboioojedbai
