/- The law on Nested, walked, over impl's contract. -/
import Derived.Test.YtmbbmibkjnlkkaaSnt
import Derived.Test.YtmbbmibkjnlkkaaTeq
import Derived.Test.YtmbbmibkjnlkkaaOev
namespace Go.Proofs.Ytmbbmibkjnlkkaa
open Go.ChangeShapes Go.WideShapes Go.ChangeAt Go.RowKit
/-- What is asked of impl.Nested. -/
def ImplNe : Prop := ∀ (w : World) (v : Value) (es : List Ev), SlE w v es → totE es + es.length ≤ 1048576 → (∀ e ∈ es, wfE e) →
    Calls Try.prog 44 #[v] w fun r w' => r = .returned (.bool (nested es)) ∧ Below w.heap.size w w'
end Go.Proofs.Ytmbbmibkjnlkkaa
