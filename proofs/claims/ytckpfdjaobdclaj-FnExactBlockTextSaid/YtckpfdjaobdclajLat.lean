/- spec.LineAt and impl.LineAt both answer the beginning of the line, Col how far that is; nothing that was there is changed. -/
import Derived.Test.YtckpfdjaobdclajLn
import Derived.Test.YtckpfdjaobdclajProg
import Derived.WalkKit
import Derived.ProofKit
import Derived.WalkLawsBesides
import Derived.WalkSpells
import Derived.Below
import Derived.Shelf.Strings.LastIndex
namespace Go.Proofs
open Go.Shelf

end Go.Proofs
namespace Go.Proofs.Ytckpfdjaobdclaj
open Go.ChangeShapes Go.WideShapes Go.ChangeAt Go.RowKit
theorem ret_int {k : IntKind} {a b : Int} (h : a = b) : Ending.returned (.int k a) = .returned (.int k b) := by rw [h]
theorem ret_bool {a b : Bool} (h : a = b) : Ending.returned (.bool a) = .returned (.bool b) := by rw [h]
end Go.Proofs.Ytckpfdjaobdclaj
