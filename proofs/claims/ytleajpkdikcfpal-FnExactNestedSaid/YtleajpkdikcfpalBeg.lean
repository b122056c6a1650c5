/- impl.begins tells whether a place is the beginning of a line. -/
import Derived.Test.YtleajpkdikcfpalNat
namespace Go.Proofs.Ytleajpkdikcfpal
open Go.ChangeShapes Go.WideShapes Go.ChangeAt Go.RowKit
end Go.Proofs.Ytleajpkdikcfpal
