/- impl.begins tells whether a place is the beginning of a line. -/
import Derived.Test.YtlfamgdmmenonaaDoorNat
namespace Go.Proofs.YtlfamgdmmenonaaDoor
open Go.ChangeShapes Go.WideShapes Go.ChangeAt Go.RowKit
end Go.Proofs.YtlfamgdmmenonaaDoor
