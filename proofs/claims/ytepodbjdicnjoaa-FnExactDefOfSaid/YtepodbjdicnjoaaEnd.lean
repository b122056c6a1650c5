/- spec.EndAt answers the end of the line. -/
import Derived.Test.YtepodbjdicnjoaaOvr
namespace Go.Proofs.Ytepodbjdicnjoaa
open Go.ChangeShapes Go.WideShapes Go.ChangeAt Go.RowKit
end Go.Proofs.Ytepodbjdicnjoaa
