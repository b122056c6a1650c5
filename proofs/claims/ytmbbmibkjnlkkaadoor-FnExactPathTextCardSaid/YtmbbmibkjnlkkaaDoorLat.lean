/- spec.LineAt and impl.LineAt both answer the beginning of the line, Col how far that is; nothing that was there is changed. -/
import Derived.Test.YtmbbmibkjnlkkaaDoorLn
import Derived.Test.YtmbbmibkjnlkkaaDoorProg
import Derived.WalkKit
import Derived.ProofKit
import Derived.WalkLawsBesides
import Derived.WalkSpells
import Derived.Below
import Derived.Shelf.Strings.LastIndex
namespace Go.Proofs
open Go.Shelf

end Go.Proofs
namespace Go.Proofs.YtmbbmibkjnlkkaaDoor
open Go.ChangeShapes Go.WideShapes Go.ChangeAt Go.RowKit
theorem ret_int {k : IntKind} {a b : Int} (h : a = b) : Ending.returned (.int k a) = .returned (.int k b) := by rw [h]
theorem ret_bool {a b : Bool} (h : a = b) : Ending.returned (.bool a) = .returned (.bool b) := by rw [h]
theorem bring_any (s : ByteArray) (p : Int) (w : World) (hs : s.size ≤ mx) :
    Calls Tryd.prog 68 #[.string s, .int .i64 p] w fun e w' => e = .returned (.int .i64 (cl s.size p)) ∧ w' = w := by
  unfold mx at hs
  go_enter Tryd.func68, Tryd.ntmps68
  go_wp2
  all_goals
    go_ret
    refine ⟨ret_int ?_, rfl⟩
    unfold cl
    first | omega | (split at * <;> omega) | (trace_state; done)
end Go.Proofs.YtmbbmibkjnlkkaaDoor
