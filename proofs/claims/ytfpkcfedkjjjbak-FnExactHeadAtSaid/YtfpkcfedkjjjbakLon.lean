/- spec.Lone and impl.Lone both tell whether the line is white alone. -/
import Derived.Test.YtfpkcfedkjjjbakNat
namespace Go.Proofs.Ytfpkcfedkjjjbak
open Go.ChangeShapes Go.WideShapes Go.ChangeAt Go.RowKit
def lone (s : ByteArray) (k : Nat) : Bool := brk s (wh s (lnb s k))
theorem spec_lone (s : ByteArray) (p : Int) (w : World) (hs : s.size ≤ mx) :
    Calls Try.prog 23 #[.string s, .int .i64 p] w fun e w' => e = .returned (.bool (lone s (cl s.size p))) ∧ w' = w := by
  have hcl := cl_le s.size p
  have hl := lnb_le s (cl s.size p)
  have HN : Hid (lone s (cl s.size p) = brk s (wh s (lnb s (cl s.size p)))) := rfl
  go_enter Try.func23, Try.ntmps23
  go_wp2_with fail
  refine (spec_line _ _ _ hs).mono ?_
  rintro e w1 ⟨rfl, rfl⟩
  go_wp2_with fail
  refine (spec_white_nat s (lnb s (cl s.size p)) _ _ hs (by omega) rfl).mono ?_
  rintro e w2 ⟨rfl, rfl⟩
  go_wp2_with fail
  refine (spec_break s _ _ _ rfl).mono ?_
  rintro e w3 ⟨rfl, rfl⟩
  go_wp2_with fail
  go_ret
  exact ⟨ret_bool HN.out.symm, rfl⟩
theorem lone_any (s : ByteArray) (p : Int) (w : World) (hs : s.size ≤ mx) :
    Calls Try.prog 46 #[.string s, .int .i64 p] w fun e w' => e = .returned (.bool (lone s (cl s.size p))) ∧ Below w.heap.size w w' := by
  have hcl := cl_le s.size p
  have hl := lnb_le s (cl s.size p)
  have hq : wh s (lnb s (cl s.size p)) ≤ s.size := fwd_le _ _ _ (by omega)
  have hbe := brk_end hq
  have HN : Hid (lone s (cl s.size p) = (((wh s (lnb s (cl s.size p)) : Nat) : Int) == ((endL s (wh s (lnb s (cl s.size p))) : Nat) : Int))) := by
    show brk s (wh s (lnb s (cl s.size p))) = _
    rw [hbe, Bool.eq_iff_iff]
    simp; omega
  clear hbe
  go_enter Try.func46, Try.ntmps46
  go_wp2_with fail
  refine (line_any _ _ _ hs).mono ?_
  rintro e w1 ⟨rfl, rfl⟩
  go_wp2_with fail
  refine (white_any_nat s (lnb s (cl s.size p)) _ _ hs (by omega) rfl).mono ?_
  rintro e w2 ⟨rfl, hb2⟩
  go_wp2_with fail
  refine (endAt_any_nat s _ _ _ hs hq rfl).mono ?_
  rintro e w3 ⟨rfl, hb3⟩
  go_wp2_with fail
  go_ret
  exact ⟨ret_bool HN.out.symm, hb2.trans (hb3.mono hb2.size)⟩
end Go.Proofs.Ytfpkcfedkjjjbak
