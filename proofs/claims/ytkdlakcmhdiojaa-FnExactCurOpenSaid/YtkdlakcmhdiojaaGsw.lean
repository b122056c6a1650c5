/- spec.Shared answers as the plain function. -/
import Derived.Test.YtkdlakcmhdiojaaGsp
namespace Go.Proofs.Ytkdlakcmhdiojaa
open Go.ChangeShapes Go.WideShapes Go.ChangeAt Go.RowKit Go.Deep
end Go.Proofs.Ytkdlakcmhdiojaa
