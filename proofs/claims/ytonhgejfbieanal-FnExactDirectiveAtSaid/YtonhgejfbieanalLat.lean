/- spec.LineAt and impl.LineAt both answer the beginning of the line, Col how far that is; nothing that was there is changed. -/
import Derived.Test.YtonhgejfbieanalLn
import Derived.Test.YtonhgejfbieanalProg
import Derived.WalkKit
import Derived.ProofKit
import Derived.WalkLawsBesides
import Derived.WalkSpells
import Derived.Below
import Derived.Shelf.Strings.LastIndex
namespace Go.Proofs
open Go.Shelf

end Go.Proofs
namespace Go.Proofs.Ytonhgejfbieanal
open Go.ChangeShapes Go.WideShapes Go.ChangeAt Go.RowKit
theorem ret_int {k : IntKind} {a b : Int} (h : a = b) : Ending.returned (.int k a) = .returned (.int k b) := by rw [h]
theorem ret_bool {a b : Bool} (h : a = b) : Ending.returned (.bool a) = .returned (.bool b) := by rw [h]
theorem l01P_any (s : ByteArray) (p : Int) (w : World) (hs : s.size ≤ mx) :
    Calls Try.prog 21 #[.string s, .int .i64 p] w fun e w' => e = .returned (.int .i64 (cl s.size p)) ∧ w' = w := by
  unfold mx at hs
  by_cases h : p < 0
  · go_enter Try.func21, Try.ntmps21
    go_wp2
    go_ret
    exact ⟨ret_int (by unfold cl; omega), rfl⟩
  · by_cases h2 : (s.size : Int) < p
    · go_enter Try.func21, Try.ntmps21
      go_wp2
      go_ret
      exact ⟨ret_int (by unfold cl; omega), rfl⟩
    · go_enter Try.func21, Try.ntmps21
      go_wp2
      go_ret
      exact ⟨ret_int (by unfold cl; omega), rfl⟩
theorem bring_any (s : ByteArray) (p : Int) (w : World) (hs : s.size ≤ mx) :
    Calls Try.prog 25 #[.string s, .int .i64 p] w fun e w' => e = .returned (.int .i64 (cl s.size p)) ∧ w' = w := by
  unfold mx at hs
  go_enter Try.func25, Try.ntmps25
  go_wp2
  all_goals
    go_ret
    refine ⟨ret_int ?_, rfl⟩
    unfold cl
    first | omega | (split at * <;> omega) | (trace_state; done)
end Go.Proofs.Ytonhgejfbieanal
