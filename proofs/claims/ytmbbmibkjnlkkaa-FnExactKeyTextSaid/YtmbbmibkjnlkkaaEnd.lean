/- spec.EndAt answers the end of the line. -/
import Derived.Test.YtmbbmibkjnlkkaaOvr
namespace Go.Proofs.Ytmbbmibkjnlkkaa
open Go.ChangeShapes Go.WideShapes Go.ChangeAt Go.RowKit
end Go.Proofs.Ytmbbmibkjnlkkaa
