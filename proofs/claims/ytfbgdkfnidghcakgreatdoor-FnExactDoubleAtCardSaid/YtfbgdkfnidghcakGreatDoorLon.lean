/- spec.Lone and impl.Lone both tell whether the line is white alone. -/
import Derived.Test.YtfbgdkfnidghcakGreatDoorNat
namespace Go.Proofs.YtfbgdkfnidghcakGreatDoor
open Go.ChangeShapes Go.WideShapes Go.ChangeAt Go.RowKit
def lone (s : ByteArray) (k : Nat) : Bool := brk s (wh s (lnb s k))
end Go.Proofs.YtfbgdkfnidghcakGreatDoor
