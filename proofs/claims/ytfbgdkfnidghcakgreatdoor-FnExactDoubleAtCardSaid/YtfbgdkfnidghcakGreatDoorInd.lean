/- spec.IndentAt and impl.IndentAt both answer how many blanks the line begins with. -/
import Derived.Test.YtfbgdkfnidghcakGreatDoorNat
namespace Go.Proofs.YtfbgdkfnidghcakGreatDoor
open Go.ChangeShapes Go.WideShapes Go.ChangeAt Go.RowKit
def ind (s : ByteArray) (k : Nat) : Nat := fwd pB s (lnb s k) - lnb s k
end Go.Proofs.YtfbgdkfnidghcakGreatDoor
