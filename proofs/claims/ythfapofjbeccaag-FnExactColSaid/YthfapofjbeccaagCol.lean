/- spec.Col and impl.Col both answer how far a place is from the beginning of its line. -/
import Derived.Test.YthfapofjbeccaagLat
namespace Go.Proofs.Ythfapofjbeccaag
open Go.ChangeShapes Go.WideShapes Go.ChangeAt Go.RowKit
theorem spec_col (s : ByteArray) (p : Int) (w : World) (hs : s.size ≤ mx) :
    Calls Try.prog 28 #[.string s, .int .i64 p] w fun e w' => e = .returned (.int .i64 ((cl s.size p : Int) - lnb s (cl s.size p))) ∧ w' = w := by
  have hcl := cl_le s.size p
  have hl := lnb_le s (cl s.size p)
  have hs' := hs
  unfold mx at hs'
  go_enter Try.func28, Try.ntmps28
  go_wp2_with fail
  refine (l01P_any _ _ _ hs).mono ?_
  rintro e w1 ⟨rfl, rfl⟩
  go_wp2_with fail
  refine (spec_line _ _ _ hs).mono ?_
  rintro e w2 ⟨rfl, rfl⟩
  go_wp2_with fail
  go_ret
  exact ⟨rfl, rfl⟩
theorem col_any (s : ByteArray) (p : Int) (w : World) (hs : s.size ≤ mx) :
    Calls Try.prog 29 #[.string s, .int .i64 p] w fun e w' => e = .returned (.int .i64 ((cl s.size p : Int) - lnb s (cl s.size p))) ∧ w' = w := by
  have hcl := cl_le s.size p
  have hl := lnb_le s (cl s.size p)
  have hs' := hs
  unfold mx at hs'
  go_enter Try.func29, Try.ntmps29
  go_wp2_with fail
  refine (bring_any _ _ _ hs).mono ?_
  rintro e w1 ⟨rfl, rfl⟩
  go_wp2_with fail
  refine (line_any _ _ _ hs).mono ?_
  rintro e w2 ⟨rfl, rfl⟩
  go_wp2_with fail
  go_ret
  exact ⟨rfl, rfl⟩
end Go.Proofs.Ythfapofjbeccaag
