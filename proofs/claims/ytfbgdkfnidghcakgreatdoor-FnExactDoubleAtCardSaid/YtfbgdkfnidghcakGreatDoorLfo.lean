/- The laws on FoldFlow, FoldBlock and BlockText, walked, over impl's contracts. -/
import Derived.Test.YtfbgdkfnidghcakGreatDoorThf
import Derived.Test.YtfbgdkfnidghcakGreatDoorTpc
import Derived.Test.YtfbgdkfnidghcakGreatDoorSbt
namespace Go.Proofs.YtfbgdkfnidghcakGreatDoor
open Go.ChangeShapes Go.WideShapes Go.ChangeAt Go.RowKit Go.Deep
/-- What is asked of impl. -/
def ImplFf : Prop := ∀ (w : World) (v : Value) (ps : List Pc), SlC w v ps → totC ps + ps.length ≤ 8388608 →
    Calls Tryz.prog 31 #[v] w fun e w' => e = .returned (.string (foldFlow ps)) ∧ Below w.heap.size w w'
end Go.Proofs.YtfbgdkfnidghcakGreatDoor
