/- Whether two events, or two lists of events, are alike: where they are the same. -/
import Derived.Test.YtleajpkdikcfpakDoorTes
namespace Go.Proofs.YtleajpkdikcfpakDoor
open Go.ChangeShapes Go.WideShapes Go.ChangeAt Go.RowKit Go.Deep Go.BigFrame
end Go.Proofs.YtleajpkdikcfpakDoor
