/- impl.begins tells whether a place is the beginning of a line. -/
import Derived.Test.YtonhgejfbieanalNat
namespace Go.Proofs.Ytonhgejfbieanal
open Go.ChangeShapes Go.WideShapes Go.ChangeAt Go.RowKit
end Go.Proofs.Ytonhgejfbieanal
