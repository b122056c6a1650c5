/- The law on EventOk, walked, over impl's contract. -/
import Derived.Test.YtlfamgdmmenonaaDoorSev
import Derived.Test.YtlfamgdmmenonaaDoorTez
import Derived.Test.YtlfamgdmmenonaaDoorOev
namespace Go.Proofs.YtlfamgdmmenonaaDoor
open Go.ChangeShapes Go.WideShapes Go.ChangeAt Go.RowKit
/-- What is asked of impl.EventOk. -/
def ImplEo : Prop := ∀ (e : Ev) (w : World), e.tot ≤ 1048576 → wfE e →
    Calls Tryd.prog 21 #[.agg e.row] w fun r w' => r = .returned (.bool (evOk e)) ∧ Below w.heap.size w w'
end Go.Proofs.YtlfamgdmmenonaaDoor
