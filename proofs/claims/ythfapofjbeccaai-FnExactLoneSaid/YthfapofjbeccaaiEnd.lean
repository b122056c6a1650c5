/- spec.EndAt answers the end of the line. -/
import Derived.Test.YthfapofjbeccaaiOvr
namespace Go.Proofs.Ythfapofjbeccaai
open Go.ChangeShapes Go.WideShapes Go.ChangeAt Go.RowKit
end Go.Proofs.Ythfapofjbeccaai
