/- The contracts of spec.HeadAt, l08Next and l08Depth. -/
import Derived.Test.YtfpkcfedkjjjbacLit
import Derived.Test.YtfpkcfedkjjjbacRst
import Derived.Test.YtfpkcfedkjjjbacSmk
namespace Go.Proofs.Ytfpkcfedkjjjbac
open Go.ChangeShapes Go.WideShapes Go.ChangeAt Go.RowKit
theorem dp_step {s : ByteArray} {f p : Nat} (h : p < s.size ∧ lone s p = true ∧ endL s p < s.size) : dpGo s (f + 1) p = dpGo s f (nx s p) := by rw [dpGo, if_pos h]
theorem dp_stop {s : ByteArray} {f p : Nat} (h : ¬ (p < s.size ∧ lone s p = true ∧ endL s p < s.size)) : dpGo s f p = p := by
  cases f with
  | zero => rfl
  | succ f => rw [dpGo, if_neg h]
end Go.Proofs.Ytfpkcfedkjjjbac
