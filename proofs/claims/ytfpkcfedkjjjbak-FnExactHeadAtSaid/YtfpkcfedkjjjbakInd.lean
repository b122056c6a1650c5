/- spec.IndentAt and impl.IndentAt both answer how many blanks the line begins with. -/
import Derived.Test.YtfpkcfedkjjjbakNat
namespace Go.Proofs.Ytfpkcfedkjjjbak
open Go.ChangeShapes Go.WideShapes Go.ChangeAt Go.RowKit
def ind (s : ByteArray) (k : Nat) : Nat := fwd pB s (lnb s k) - lnb s k
theorem indent_any (s : ByteArray) (p : Int) (w : World) (hs : s.size ≤ mx) :
    Calls Try.prog 48 #[.string s, .int .i64 p] w fun e w' => e = .returned (.int .i64 (ind s (cl s.size p))) ∧ Below w.heap.size w w' := by
  have hcl := cl_le s.size p
  have hl := lnb_le s (cl s.size p)
  have HN : Hid (ind s (cl s.size p) = fwd pB s (lnb s (cl s.size p)) - lnb s (cl s.size p)) := rfl
  have hs' := hs
  unfold mx at hs'
  go_enter Try.func48, Try.ntmps48
  go_wp2_with fail
  refine (line_any _ _ _ hs).mono ?_
  rintro e w1 ⟨rfl, rfl⟩
  generalize hq : lnb s (cl s.size p) = q at *
  clear hq
  have hge := fwd_ge pB s q
  have hle := fwd_le pB s q (by omega)
  go_wp2_with fail
  refine (among_any _ _).mono ?_
  rintro e w2 ⟨B, rfl, hB, hb1⟩
  go_wp2_with fail
  have hO := among_over s _ (q : Int) pB _ _ hs hB pB_signs
  rw [cl_nat _ _ (by omega)] at hO
  generalize hr : fwd pB s q = r at *
  clear hr
  refine hO.mono ?_
  rintro e w3 ⟨rfl, hb2⟩
  clear hO
  go_wp2_with fail
  go_ret
  exact ⟨ret_int (by rw [HN.out]; omega), hb1.trans (hb2.mono hb1.size)⟩
set_option maxHeartbeats 1000000 in
theorem spec_indent (s : ByteArray) (p : Int) (w : World) (hs : s.size ≤ mx) :
    Calls Try.prog 24 #[.string s, .int .i64 p] w fun e w' => e = .returned (.int .i64 (ind s (cl s.size p))) ∧ w' = w := by
  have hcl := cl_le s.size p
  have hl := lnb_le s (cl s.size p)
  have HN : Hid (ind s (cl s.size p) = fwd pB s (lnb s (cl s.size p)) - lnb s (cl s.size p)) := rfl
  have hs' := hs
  unfold mx at hs'
  go_enter Try.func24, Try.ntmps24
  go_wp2_with fail
  refine (spec_line _ _ _ hs).mono ?_
  rintro e w1 ⟨rfl, rfl⟩
  generalize hq : lnb s (cl s.size p) = q at *
  clear hq
  go_wp2_with fail
  go_loop [6] (fun t => ∃ k : Nat, q + k ≤ s.size ∧ t = .int .i64 k ∧ Hid (fwd pB s (q + k) = fwd pB s q)) (fun t => s.size - (intOf t).toNat)
  case atStart => exact ⟨0, by omega, rfl, rfl⟩
  case round =>
    obtain ⟨k, hk, rfl, HL⟩ := hrel
    by_cases hlt : q + k < s.size
    · have hb := bt_get s (q + k) hlt
      by_cases h32 : bt s (q + k) = 32
      · have HE : Hid (fwd pB s (q + (k + 1)) = fwd pB s q) := by
          show fwd pB s (q + (k + 1)) = fwd pB s q
          rw [← HL.out, fwd_step hlt (by rw [h32]; rfl)]; rfl
        have hc : (s[q + k]'hlt).toNat = 32 := by rw [hb]; exact h32
        clear hb h32
        go_wp2_with fail
        go_round
        case rel => exact ⟨k + 1, by omega, by go_num, HE⟩
        case measure => simp [intOf]; omega
      · have HE : Hid (fwd pB s q = q + k) := by
          show fwd pB s q = q + k
          rw [← HL.out]; exact fwd_stop (by simp [pB, h32])
        have hc : (((s[q + k]'hlt).toNat : Int) == 32) = false := by rw [hb, beq_eq_false_iff_ne]; omega
        clear hb h32
        go_wp2_with fail
        go_ret
        exact ⟨ret_int (by rw [HN.out, HE.out]; omega), rfl⟩
    · have HE : Hid (fwd pB s q = q + k) := by
        show fwd pB s q = q + k
        rw [← HL.out]; exact fwd_end (by omega)
      go_wp2_with fail
      go_ret
      exact ⟨ret_int (by rw [HN.out, HE.out]; omega), rfl⟩
end Go.Proofs.Ytfpkcfedkjjjbak
