/- spec.LineAt and impl.LineAt both answer the beginning of the line, Col how far that is; nothing that was there is changed. -/
import Derived.Test.YtfbgdkfnidghcakGreatDoorLn
import Derived.Test.YtfbgdkfnidghcakGreatDoorProg
import Derived.WalkKit
import Derived.ProofKit
import Derived.WalkLawsBesides
import Derived.WalkSpells
import Derived.Below
import Derived.Shelf.Strings.LastIndex
namespace Go.Proofs
open Go.Shelf

end Go.Proofs
namespace Go.Proofs.YtfbgdkfnidghcakGreatDoor
open Go.ChangeShapes Go.WideShapes Go.ChangeAt Go.RowKit
theorem ret_int {k : IntKind} {a b : Int} (h : a = b) : Ending.returned (.int k a) = .returned (.int k b) := by rw [h]
theorem ret_bool {a b : Bool} (h : a = b) : Ending.returned (.bool a) = .returned (.bool b) := by rw [h]
theorem l01P_any (s : ByteArray) (p : Int) (w : World) (hs : s.size ≤ mx) :
    Calls Tryz.prog 6 #[.string s, .int .i64 p] w fun e w' => e = .returned (.int .i64 (cl s.size p)) ∧ w' = w := by
  unfold mx at hs
  by_cases h : p < 0
  · go_enter Tryz.func6, Tryz.ntmps6
    go_wp2
    go_ret
    exact ⟨ret_int (by unfold cl; omega), rfl⟩
  · by_cases h2 : (s.size : Int) < p
    · go_enter Tryz.func6, Tryz.ntmps6
      go_wp2
      go_ret
      exact ⟨ret_int (by unfold cl; omega), rfl⟩
    · go_enter Tryz.func6, Tryz.ntmps6
      go_wp2
      go_ret
      exact ⟨ret_int (by unfold cl; omega), rfl⟩
theorem bring_any (s : ByteArray) (p : Int) (w : World) (hs : s.size ≤ mx) :
    Calls Tryz.prog 19 #[.string s, .int .i64 p] w fun e w' => e = .returned (.int .i64 (cl s.size p)) ∧ w' = w := by
  unfold mx at hs
  go_enter Tryz.func19, Tryz.ntmps19
  go_wp2
  all_goals
    go_ret
    refine ⟨ret_int ?_, rfl⟩
    unfold cl
    first | omega | (split at * <;> omega) | (trace_state; done)
set_option maxHeartbeats 1000000 in
theorem spec_line (s : ByteArray) (p : Int) (w : World) (hs : s.size ≤ mx) :
    Calls Tryz.prog 14 #[.string s, .int .i64 p] w fun e w' => e = .returned (.int .i64 (lnb s (cl s.size p))) ∧ w' = w := by
  have hcl := cl_le s.size p
  unfold mx at hs
  go_enter Tryz.func14, Tryz.ntmps14
  go_wp2_with fail
  refine (l01P_any _ _ _ hs).mono ?_
  rintro e w1 ⟨rfl, rfl⟩
  generalize hq : cl s.size p = q at *
  have HQ : Hid (cl s.size p = q) := hq
  clear hq
  go_wp2_with fail
  go_loop [1] (fun t => ∃ k : Nat, k ≤ s.size ∧ t = .int .i64 k ∧ Hid (lnb s k = lnb s q)) (fun t => (intOf t).toNat)
  case atStart => exact ⟨q, hcl, rfl, rfl⟩
  case round =>
    obtain ⟨k, hk, rfl, HL⟩ := hrel
    by_cases h0 : k = 0
    · subst h0
      have HE : Hid (lnb s q = 0) := by show lnb s q = 0; rw [← HL.out]; rfl
      go_wp2_with fail
      go_ret
      exact ⟨ret_int (by rw [HQ.out, HE.out]; rfl), rfl⟩
    · obtain ⟨j, rfl⟩ : ∃ j, k = j + 1 := ⟨k - 1, by omega⟩
      have hj : j < s.size := by omega
      have hb := bt_get s j hj
      by_cases h10 : bt s j = 10
      · have HE : Hid (lnb s q = j + 1) := by show lnb s q = j + 1; rw [← HL.out]; unfold lnb; rw [if_pos h10]
        have hc : (s[j]'hj).toNat = 10 := by rw [hb]; exact h10
        clear hb h10 h0
        go_wp2_with fail
        go_ret
        exact ⟨ret_int (by rw [HQ.out, HE.out]; rfl), rfl⟩
      · have HE : Hid (lnb s j = lnb s q) := by show lnb s j = lnb s q; rw [← HL.out]; conv => rhs; unfold lnb; rw [if_neg h10]
        have hc : (((s[j]'hj).toNat : Int) == 10) = false := by rw [hb, beq_eq_false_iff_ne]; omega
        clear hb h10 h0
        go_wp2_with fail
        go_round
        case rel => exact ⟨j, by omega, by go_num, HE⟩
        case measure => simp [intOf]
end Go.Proofs.YtfbgdkfnidghcakGreatDoor
