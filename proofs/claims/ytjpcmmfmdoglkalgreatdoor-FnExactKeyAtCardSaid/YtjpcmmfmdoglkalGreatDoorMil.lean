/- Several texts in one: Ind Lon. -/
import Derived.Test.YtjpcmmfmdoglkalGreatDoorNat
/- spec.IndentAt and impl.IndentAt both answer how many blanks the line begins with. -/
namespace Go.Proofs.YtjpcmmfmdoglkalGreatDoor
open Go.ChangeShapes Go.WideShapes Go.ChangeAt Go.RowKit
def ind (s : ByteArray) (k : Nat) : Nat := fwd pB s (lnb s k) - lnb s k
theorem indent_any (s : ByteArray) (p : Int) (w : World) (hs : s.size ≤ mx) :
    Calls Tryz.prog 213 #[.string s, .int .i64 p] w fun e w' => e = .returned (.int .i64 (ind s (cl s.size p))) ∧ Below w.heap.size w w' := by
  have hcl := cl_le s.size p
  have hl := lnb_le s (cl s.size p)
  have HN : Hid (ind s (cl s.size p) = fwd pB s (lnb s (cl s.size p)) - lnb s (cl s.size p)) := rfl
  have hs' := hs
  unfold mx at hs'
  go_enter Tryz.func213, Tryz.ntmps213
  go_wp2_with fail
  refine (line_any _ _ _ hs).mono ?_
  rintro e w1 ⟨rfl, rfl⟩
  generalize hq : lnb s (cl s.size p) = q at *
  clear hq
  have hge := fwd_ge pB s q
  have hle := fwd_le pB s q (by omega)
  go_wp2_with fail
  refine (among_any _ _).mono ?_
  rintro e w2 ⟨B, rfl, hB, hb1⟩
  go_wp2_with fail
  have hO := among_over s _ (q : Int) pB _ _ hs hB pB_signs
  rw [cl_nat _ _ (by omega)] at hO
  generalize hr : fwd pB s q = r at *
  clear hr
  refine hO.mono ?_
  rintro e w3 ⟨rfl, hb2⟩
  clear hO
  go_wp2_with fail
  go_ret
  exact ⟨ret_int (by rw [HN.out]; omega), hb1.trans (hb2.mono hb1.size)⟩
set_option maxHeartbeats 1000000 in
theorem spec_indent (s : ByteArray) (p : Int) (w : World) (hs : s.size ≤ mx) :
    Calls Tryz.prog 152 #[.string s, .int .i64 p] w fun e w' => e = .returned (.int .i64 (ind s (cl s.size p))) ∧ w' = w := by
  have hcl := cl_le s.size p
  have hl := lnb_le s (cl s.size p)
  have HN : Hid (ind s (cl s.size p) = fwd pB s (lnb s (cl s.size p)) - lnb s (cl s.size p)) := rfl
  have hs' := hs
  unfold mx at hs'
  go_enter Tryz.func152, Tryz.ntmps152
  go_wp2_with fail
  refine (spec_line _ _ _ hs).mono ?_
  rintro e w1 ⟨rfl, rfl⟩
  generalize hq : lnb s (cl s.size p) = q at *
  clear hq
  go_wp2_with fail
  go_loop [6] (fun t => ∃ k : Nat, q + k ≤ s.size ∧ t = .int .i64 k ∧ Hid (fwd pB s (q + k) = fwd pB s q)) (fun t => s.size - (intOf t).toNat)
  case atStart => exact ⟨0, by omega, rfl, rfl⟩
  case round =>
    obtain ⟨k, hk, rfl, HL⟩ := hrel
    by_cases hlt : q + k < s.size
    · have hb := bt_get s (q + k) hlt
      by_cases h32 : bt s (q + k) = 32
      · have HE : Hid (fwd pB s (q + (k + 1)) = fwd pB s q) := by
          show fwd pB s (q + (k + 1)) = fwd pB s q
          rw [← HL.out, fwd_step hlt (by rw [h32]; rfl)]; rfl
        have hc : (s[q + k]'hlt).toNat = 32 := by rw [hb]; exact h32
        clear hb h32
        go_wp2_with fail
        go_round
        case rel => exact ⟨k + 1, by omega, by go_num, HE⟩
        case measure => simp [intOf]; omega
      · have HE : Hid (fwd pB s q = q + k) := by
          show fwd pB s q = q + k
          rw [← HL.out]; exact fwd_stop (by simp [pB, h32])
        have hc : (((s[q + k]'hlt).toNat : Int) == 32) = false := by rw [hb, beq_eq_false_iff_ne]; omega
        clear hb h32
        go_wp2_with fail
        go_ret
        exact ⟨ret_int (by rw [HN.out, HE.out]; omega), rfl⟩
    · have HE : Hid (fwd pB s q = q + k) := by
        show fwd pB s q = q + k
        rw [← HL.out]; exact fwd_end (by omega)
      go_wp2_with fail
      go_ret
      exact ⟨ret_int (by rw [HN.out, HE.out]; omega), rfl⟩
end Go.Proofs.YtjpcmmfmdoglkalGreatDoor
/- spec.Lone and impl.Lone both tell whether the line is white alone. -/
namespace Go.Proofs.YtjpcmmfmdoglkalGreatDoor
open Go.ChangeShapes Go.WideShapes Go.ChangeAt Go.RowKit
def lone (s : ByteArray) (k : Nat) : Bool := brk s (wh s (lnb s k))
theorem spec_lone (s : ByteArray) (p : Int) (w : World) (hs : s.size ≤ mx) :
    Calls Tryz.prog 151 #[.string s, .int .i64 p] w fun e w' => e = .returned (.bool (lone s (cl s.size p))) ∧ w' = w := by
  have hcl := cl_le s.size p
  have hl := lnb_le s (cl s.size p)
  have HN : Hid (lone s (cl s.size p) = brk s (wh s (lnb s (cl s.size p)))) := rfl
  go_enter Tryz.func151, Tryz.ntmps151
  go_wp2_with fail
  refine (spec_line _ _ _ hs).mono ?_
  rintro e w1 ⟨rfl, rfl⟩
  go_wp2_with fail
  refine (spec_white_nat s (lnb s (cl s.size p)) _ _ hs (by omega) rfl).mono ?_
  rintro e w2 ⟨rfl, rfl⟩
  go_wp2_with fail
  refine (spec_break s _ _ _ rfl).mono ?_
  rintro e w3 ⟨rfl, rfl⟩
  go_wp2_with fail
  go_ret
  exact ⟨ret_bool HN.out.symm, rfl⟩
theorem lone_any (s : ByteArray) (p : Int) (w : World) (hs : s.size ≤ mx) :
    Calls Tryz.prog 227 #[.string s, .int .i64 p] w fun e w' => e = .returned (.bool (lone s (cl s.size p))) ∧ Below w.heap.size w w' := by
  have hcl := cl_le s.size p
  have hl := lnb_le s (cl s.size p)
  have hq : wh s (lnb s (cl s.size p)) ≤ s.size := fwd_le _ _ _ (by omega)
  have hbe := brk_end hq
  have HN : Hid (lone s (cl s.size p) = (((wh s (lnb s (cl s.size p)) : Nat) : Int) == ((endL s (wh s (lnb s (cl s.size p))) : Nat) : Int))) := by
    show brk s (wh s (lnb s (cl s.size p))) = _
    rw [hbe, Bool.eq_iff_iff]
    simp; omega
  clear hbe
  go_enter Tryz.func227, Tryz.ntmps227
  go_wp2_with fail
  refine (line_any _ _ _ hs).mono ?_
  rintro e w1 ⟨rfl, rfl⟩
  go_wp2_with fail
  refine (white_any_nat s (lnb s (cl s.size p)) _ _ hs (by omega) rfl).mono ?_
  rintro e w2 ⟨rfl, hb2⟩
  go_wp2_with fail
  refine (endAt_any_nat s _ _ _ hs hq rfl).mono ?_
  rintro e w3 ⟨rfl, hb3⟩
  go_wp2_with fail
  go_ret
  exact ⟨ret_bool HN.out.symm, hb2.trans (hb3.mono hb2.size)⟩
end Go.Proofs.YtjpcmmfmdoglkalGreatDoor
