/- spec.IndentAt and impl.IndentAt both answer how many blanks the line begins with. -/
import Derived.Test.YtfpkcfedkjjjbacNat
namespace Go.Proofs.Ytfpkcfedkjjjbac
open Go.ChangeShapes Go.WideShapes Go.ChangeAt Go.RowKit
def ind (s : ByteArray) (k : Nat) : Nat := fwd pB s (lnb s k) - lnb s k
theorem indent_any (s : ByteArray) (p : Int) (w : World) (hs : s.size ≤ mx) :
    Calls Try.prog 46 #[.string s, .int .i64 p] w fun e w' => e = .returned (.int .i64 (ind s (cl s.size p))) ∧ Below w.heap.size w w' := by
  have hcl := cl_le s.size p
  have hl := lnb_le s (cl s.size p)
  have HN : Hid (ind s (cl s.size p) = fwd pB s (lnb s (cl s.size p)) - lnb s (cl s.size p)) := rfl
  have hs' := hs
  unfold mx at hs'
  go_enter Try.func46, Try.ntmps46
  go_wp2_with fail
  refine (line_any _ _ _ hs).mono ?_
  rintro e w1 ⟨rfl, rfl⟩
  generalize hq : lnb s (cl s.size p) = q at *
  clear hq
  have hge := fwd_ge pB s q
  have hle := fwd_le pB s q (by omega)
  go_wp2_with fail
  refine (among_any _ _).mono ?_
  rintro e w2 ⟨B, rfl, hB, hb1⟩
  go_wp2_with fail
  have hO := among_over s _ (q : Int) pB _ _ hs hB pB_signs
  rw [cl_nat _ _ (by omega)] at hO
  generalize hr : fwd pB s q = r at *
  clear hr
  refine hO.mono ?_
  rintro e w3 ⟨rfl, hb2⟩
  clear hO
  go_wp2_with fail
  go_ret
  exact ⟨ret_int (by rw [HN.out]; omega), hb1.trans (hb2.mono hb1.size)⟩
end Go.Proofs.Ytfpkcfedkjjjbac
