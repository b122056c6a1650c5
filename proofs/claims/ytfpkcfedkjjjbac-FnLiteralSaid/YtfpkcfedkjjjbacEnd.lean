/- spec.EndAt answers the end of the line. -/
import Derived.Test.YtfpkcfedkjjjbacOvr
namespace Go.Proofs.Ytfpkcfedkjjjbac
open Go.ChangeShapes Go.WideShapes Go.ChangeAt Go.RowKit
end Go.Proofs.Ytfpkcfedkjjjbac
