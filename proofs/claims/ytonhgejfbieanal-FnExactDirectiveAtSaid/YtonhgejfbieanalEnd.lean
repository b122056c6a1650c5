/- spec.EndAt answers the end of the line. -/
import Derived.Test.YtonhgejfbieanalOvr
namespace Go.Proofs.Ytonhgejfbieanal
open Go.ChangeShapes Go.WideShapes Go.ChangeAt Go.RowKit
set_option maxHeartbeats 1000000 in
theorem spec_end (s : ByteArray) (p : Int) (w : World) (hs : s.size ≤ mx) :
    Calls Try.prog 22 #[.string s, .int .i64 p] w fun e w' => e = .returned (.int .i64 (endL s (cl s.size p))) ∧ w' = w := by
  have hcl := cl_le s.size p
  unfold mx at hs
  go_enter Try.func22, Try.ntmps22
  go_wp2_with fail
  refine (l01P_any _ _ _ hs).mono ?_
  rintro e w1 ⟨rfl, rfl⟩
  generalize hq : cl s.size p = q at *
  have HQ : Hid (cl s.size p = q) := hq
  clear hq
  go_wp2_with fail
  go_loop [1] (fun t => ∃ k : Nat, k ≤ s.size ∧ t = .int .i64 k ∧ Hid (endL s k = endL s q)) (fun t => s.size - (intOf t).toNat)
  case atStart => exact ⟨q, hcl, rfl, rfl⟩
  case round =>
    obtain ⟨k, hk, rfl, HL⟩ := hrel
    by_cases hlt : k < s.size
    · have hb := bt_get s k hlt
      by_cases h10 : bt s k = 10
      · have HE : Hid (endL s q = k) := by
          show endL s q = k
          rw [← HL.out]; exact fwd_stop (by simp [pN, h10])
        have hc : (s[k]'hlt).toNat = 10 := by rw [hb]; exact h10
        clear hb h10
        go_wp2_with fail
        go_ret
        exact ⟨ret_int (by rw [HQ.out, HE.out]), rfl⟩
      · have HE : Hid (endL s (k + 1) = endL s q) := by
          show endL s (k + 1) = endL s q
          rw [← HL.out]; exact (fwd_step hlt (by simp [pN, h10])).symm
        have hc : (((s[k]'hlt).toNat : Int) == 10) = false := by rw [hb, beq_eq_false_iff_ne]; omega
        clear hb h10
        go_wp2_with fail
        go_round
        case rel => exact ⟨k + 1, by omega, by go_num, HE⟩
        case measure => simp [intOf]; omega
    · have HE : Hid (endL s q = k) := by
        show endL s q = k
        rw [← HL.out]; exact fwd_end (by omega)
      go_wp2_with fail
      go_ret
      exact ⟨ret_int (by rw [HQ.out, HE.out]), rfl⟩
end Go.Proofs.Ytonhgejfbieanal
