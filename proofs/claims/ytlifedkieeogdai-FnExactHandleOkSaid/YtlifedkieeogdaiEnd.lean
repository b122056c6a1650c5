/- spec.EndAt answers the end of the line. -/
import Derived.Test.YtlifedkieeogdaiOvr
namespace Go.Proofs.Ytlifedkieeogdai
open Go.ChangeShapes Go.WideShapes Go.ChangeAt Go.RowKit
end Go.Proofs.Ytlifedkieeogdai
