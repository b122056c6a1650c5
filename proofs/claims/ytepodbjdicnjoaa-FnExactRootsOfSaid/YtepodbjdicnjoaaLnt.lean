/- The law on Nested, walked, over impl's contract. -/
import Derived.Test.YtepodbjdicnjoaaSnt
import Derived.Test.YtepodbjdicnjoaaTeq
import Derived.Test.YtepodbjdicnjoaaOev
namespace Go.Proofs.Ytepodbjdicnjoaa
open Go.ChangeShapes Go.WideShapes Go.ChangeAt Go.RowKit
/-- What is asked of impl.Nested. -/
def ImplNe : Prop := ∀ (w : World) (v : Value) (es : List Ev), SlE w v es → totE es + es.length ≤ 1048576 → (∀ e ∈ es, wfE e) →
    Calls Try.prog 49 #[v] w fun r w' => r = .returned (.bool (nested es)) ∧ Below w.heap.size w w'
end Go.Proofs.Ytepodbjdicnjoaa
