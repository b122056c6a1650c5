/- impl.begins tells whether a place is the beginning of a line. -/
import Derived.Test.YtepodbjdicnjoaaNat
namespace Go.Proofs.Ytepodbjdicnjoaa
open Go.ChangeShapes Go.WideShapes Go.ChangeAt Go.RowKit
end Go.Proofs.Ytepodbjdicnjoaa
