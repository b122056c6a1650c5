/- The law on GraphOk, walked, over impl's contract. -/
import Derived.Test.YtgaibajkegfpoaaDoorGov
import Derived.Test.YtgaibajkegfpoaaDoorGsz
import Derived.Test.YtgaibajkegfpoaaDoorGop
namespace Go.Proofs.YtgaibajkegfpoaaDoor
open Go.ChangeShapes Go.WideShapes Go.ChangeAt Go.RowKit Go.Deep
/-- What is asked of impl.GraphOk. -/
def ImplGk : Prop := ∀ (g : Gr) (nv rv : Value) (w : World), GrAt w nv rv g → g.tot ≤ 1048576 → g.Wf →
    Calls Tryd.prog 20 #[.agg #[nv, rv]] w fun e w' => e = .returned (.bool (graphOkP g)) ∧ Below w.heap.size w w'
end Go.Proofs.YtgaibajkegfpoaaDoor
