/- The law on EventOk, walked, over impl's contract. -/
import Derived.Test.YtmbbmibkjnlkkaaSev
import Derived.Test.YtmbbmibkjnlkkaaTez
import Derived.Test.YtmbbmibkjnlkkaaOev
namespace Go.Proofs.Ytmbbmibkjnlkkaa
open Go.ChangeShapes Go.WideShapes Go.ChangeAt Go.RowKit
/-- What is asked of impl.EventOk. -/
def ImplEo : Prop := ∀ (e : Ev) (w : World), e.tot ≤ 1048576 → wfE e →
    Calls Try.prog 51 #[.agg e.row] w fun r w' => r = .returned (.bool (evOk e)) ∧ Below w.heap.size w w'
end Go.Proofs.Ytmbbmibkjnlkkaa
