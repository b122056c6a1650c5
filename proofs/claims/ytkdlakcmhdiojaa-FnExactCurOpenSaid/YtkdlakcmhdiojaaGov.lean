/- spec.GraphOk answers as the plain function. -/
import Derived.Test.YtkdlakcmhdiojaaGok
namespace Go.Proofs.Ytkdlakcmhdiojaa
open Go.ChangeShapes Go.WideShapes Go.ChangeAt Go.RowKit Go.Deep
end Go.Proofs.Ytkdlakcmhdiojaa
