/- spec.Col and impl.Col both answer how far a place is from the beginning of its line. -/
import Derived.Test.YthfapofjbeccaadLat
namespace Go.Proofs.Ythfapofjbeccaad
open Go.ChangeShapes Go.WideShapes Go.ChangeAt Go.RowKit
theorem col_any (s : ByteArray) (p : Int) (w : World) (hs : s.size ≤ mx) :
    Calls Try.prog 10 #[.string s, .int .i64 p] w fun e w' => e = .returned (.int .i64 ((cl s.size p : Int) - lnb s (cl s.size p))) ∧ w' = w := by
  have hcl := cl_le s.size p
  have hl := lnb_le s (cl s.size p)
  have hs' := hs
  unfold mx at hs'
  go_enter Try.func10, Try.ntmps10
  go_wp2_with fail
  refine (bring_any _ _ _ hs).mono ?_
  rintro e w1 ⟨rfl, rfl⟩
  go_wp2_with fail
  refine (line_any _ _ _ hs).mono ?_
  rintro e w2 ⟨rfl, rfl⟩
  go_wp2_with fail
  go_ret
  exact ⟨rfl, rfl⟩
end Go.Proofs.Ythfapofjbeccaad
