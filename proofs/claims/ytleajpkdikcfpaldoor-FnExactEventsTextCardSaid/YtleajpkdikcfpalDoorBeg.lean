/- impl.begins tells whether a place is the beginning of a line. -/
import Derived.Test.YtleajpkdikcfpalDoorNat
namespace Go.Proofs.YtleajpkdikcfpalDoor
open Go.ChangeShapes Go.WideShapes Go.ChangeAt Go.RowKit
end Go.Proofs.YtleajpkdikcfpalDoor
