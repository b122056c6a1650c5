/- spec.EndAt answers the end of the line. -/
import Derived.Test.YthfapofjbeccaadOvr
namespace Go.Proofs.Ythfapofjbeccaad
open Go.ChangeShapes Go.WideShapes Go.ChangeAt Go.RowKit
end Go.Proofs.Ythfapofjbeccaad
