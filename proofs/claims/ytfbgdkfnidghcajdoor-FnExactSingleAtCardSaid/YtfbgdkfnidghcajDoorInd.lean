/- spec.IndentAt and impl.IndentAt both answer how many blanks the line begins with. -/
import Derived.Test.YtfbgdkfnidghcajDoorNat
namespace Go.Proofs.YtfbgdkfnidghcajDoor
open Go.ChangeShapes Go.WideShapes Go.ChangeAt Go.RowKit
def ind (s : ByteArray) (k : Nat) : Nat := fwd pB s (lnb s k) - lnb s k
end Go.Proofs.YtfbgdkfnidghcajDoor
