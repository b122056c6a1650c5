/- The specification's SegOk. -/
import Derived.Test.YtmbbmibkjnlkkaaDoorProg
import Derived.Test.YtmbbmibkjnlkkaaDoorPsg
import Derived.WalkKit
import Derived.ProofKit
import Derived.Below
import Derived.WalkMore
import Derived.WalkSpells
import Derived.Handy
namespace Go.Proofs.YtmbbmibkjnlkkaaDoor
open Go.ChangeShapes Go.WideShapes Go.ChangeAt Go.RowKit
theorem ret_bP {a b : Bool} (h : a = b) : Ending.returned (.bool a) = .returned (.bool b) := by rw [h]
set_option maxHeartbeats 8000000 in
set_option maxRecDepth 100000 in
set_option linter.unusedSimpArgs false in
theorem spec_segOk (s : Sg) (w : World) : Calls Tryd.prog 16 #[.agg s.row] w fun e w' => e = .returned (.bool (segOk s)) ∧ Below w.heap.size w w' := by
  obtain ⟨kind, n, text⟩ := s
  show Calls Tryd.prog 16 #[.agg #[.int .i64 kind, .int .i64 n, .string text]] w fun e w' => e = .returned (.bool (segOk ⟨kind, n, text⟩)) ∧ Below w.heap.size w w'
  have HB : Hid (Below w.heap.size w (w.alloc (.cells #[.int .i64 kind, .int .i64 n, .string text] 29))) := (Below.refl _ w).alloc (Nat.le_refl _) _
  by_cases hk1 : 1 ≤ kind
  case neg =>
    have t1 : (kind == 1) = false := by rw [beq_eq_false_iff_ne]; omega
    have t3 : (kind == 3) = false := by rw [beq_eq_false_iff_ne]; omega
    have HO : Hid (false = segOk ⟨kind, n, text⟩) := by show _ = _; unfold segOk noT; simp [hk1]
    go_enter Tryd.func16, Tryd.ntmps16
    go_wp2_with fail
    go_ret
    exact ⟨ret_bP HO.out, HB.out⟩
  by_cases hk5 : kind ≤ 5
  case neg =>
    have t1 : (kind == 1) = false := by rw [beq_eq_false_iff_ne]; omega
    have t3 : (kind == 3) = false := by rw [beq_eq_false_iff_ne]; omega
    have HO : Hid (false = segOk ⟨kind, n, text⟩) := by show _ = _; unfold segOk noT; simp [hk1, hk5]
    go_enter Tryd.func16, Tryd.ntmps16
    go_wp2_with fail
    go_ret
    exact ⟨ret_bP HO.out, HB.out⟩
  have hk : kind = 1 ∨ kind = 2 ∨ kind = 3 ∨ kind = 4 ∨ kind = 5 := by omega
  clear hk1 hk5
  by_cases hn0 : 0 ≤ n
  case neg =>
    rcases hk with rfl | rfl | rfl | rfl | rfl
    · have HO : Hid (false = segOk ⟨1, n, text⟩) := by show _ = _; unfold segOk noT; simp [hn0]
      go_enter Tryd.func16, Tryd.ntmps16
      go_wp2_with fail
      go_ret
      exact ⟨ret_bP HO.out, HB.out⟩
    · have HO : Hid (false = segOk ⟨2, n, text⟩) := by show _ = _; unfold segOk noT; simp [hn0]
      go_enter Tryd.func16, Tryd.ntmps16
      go_wp2_with fail
      go_ret
      exact ⟨ret_bP HO.out, HB.out⟩
    · have HO : Hid (false = segOk ⟨3, n, text⟩) := by show _ = _; unfold segOk noT; simp [hn0]
      go_enter Tryd.func16, Tryd.ntmps16
      go_wp2_with fail
      go_ret
      exact ⟨ret_bP HO.out, HB.out⟩
    · have HO : Hid (false = segOk ⟨4, n, text⟩) := by show _ = _; unfold segOk noT; simp [hn0]
      go_enter Tryd.func16, Tryd.ntmps16
      go_wp2_with fail
      go_ret
      exact ⟨ret_bP HO.out, HB.out⟩
    · have HO : Hid (false = segOk ⟨5, n, text⟩) := by show _ = _; unfold segOk noT; simp [hn0]
      go_enter Tryd.func16, Tryd.ntmps16
      go_wp2_with fail
      go_ret
      exact ⟨ret_bP HO.out, HB.out⟩
  by_cases hnm : n ≤ 4294967295
  case neg =>
    rcases hk with rfl | rfl | rfl | rfl | rfl
    · have HO : Hid (false = segOk ⟨1, n, text⟩) := by show _ = _; unfold segOk noT; simp [hn0, hnm]
      go_enter Tryd.func16, Tryd.ntmps16
      go_wp2_with fail
      go_ret
      exact ⟨ret_bP HO.out, HB.out⟩
    · have HO : Hid (false = segOk ⟨2, n, text⟩) := by show _ = _; unfold segOk noT; simp [hn0, hnm]
      go_enter Tryd.func16, Tryd.ntmps16
      go_wp2_with fail
      go_ret
      exact ⟨ret_bP HO.out, HB.out⟩
    · have HO : Hid (false = segOk ⟨3, n, text⟩) := by show _ = _; unfold segOk noT; simp [hn0, hnm]
      go_enter Tryd.func16, Tryd.ntmps16
      go_wp2_with fail
      go_ret
      exact ⟨ret_bP HO.out, HB.out⟩
    · have HO : Hid (false = segOk ⟨4, n, text⟩) := by show _ = _; unfold segOk noT; simp [hn0, hnm]
      go_enter Tryd.func16, Tryd.ntmps16
      go_wp2_with fail
      go_ret
      exact ⟨ret_bP HO.out, HB.out⟩
    · have HO : Hid (false = segOk ⟨5, n, text⟩) := by show _ = _; unfold segOk noT; simp [hn0, hnm]
      go_enter Tryd.func16, Tryd.ntmps16
      go_wp2_with fail
      go_ret
      exact ⟨ret_bP HO.out, HB.out⟩
  by_cases hz : n = 0
  · subst hz
    rcases hk with rfl | rfl | rfl | rfl | rfl
    · have HO : Hid (text.toList.isEmpty = segOk ⟨1, 0, text⟩) := by show _ = _; unfold segOk noT; simp [hn0, hnm]
      go_enter Tryd.func16, Tryd.ntmps16
      go_wp2_with fail
      go_ret
      exact ⟨ret_bP HO.out, HB.out⟩
    · have HO : Hid (true = segOk ⟨2, 0, text⟩) := by show _ = _; unfold segOk noT; simp [hn0, hnm]
      go_enter Tryd.func16, Tryd.ntmps16
      go_wp2_with fail
      go_ret
      exact ⟨ret_bP HO.out, HB.out⟩
    · have HO : Hid (text.toList.isEmpty = segOk ⟨3, 0, text⟩) := by show _ = _; unfold segOk noT; simp [hn0, hnm]
      go_enter Tryd.func16, Tryd.ntmps16
      go_wp2_with fail
      go_ret
      exact ⟨ret_bP HO.out, HB.out⟩
    · have HO : Hid (text.toList.isEmpty = segOk ⟨4, 0, text⟩) := by show _ = _; unfold segOk noT; simp [hn0, hnm]
      go_enter Tryd.func16, Tryd.ntmps16
      go_wp2_with fail
      go_ret
      exact ⟨ret_bP HO.out, HB.out⟩
    · have HO : Hid (text.toList.isEmpty = segOk ⟨5, 0, text⟩) := by show _ = _; unfold segOk noT; simp [hn0, hnm]
      go_enter Tryd.func16, Tryd.ntmps16
      go_wp2_with fail
      go_ret
      exact ⟨ret_bP HO.out, HB.out⟩
  · have tz : (n == 0) = false := by rw [beq_eq_false_iff_ne]; exact hz
    rcases hk with rfl | rfl | rfl | rfl | rfl
    · have HO : Hid (text.toList.isEmpty = segOk ⟨1, n, text⟩) := by show _ = _; unfold segOk noT; simp [hn0, hnm, hz]
      go_enter Tryd.func16, Tryd.ntmps16
      go_wp2_with fail
      go_ret
      exact ⟨ret_bP HO.out, HB.out⟩
    · have HO : Hid (false = segOk ⟨2, n, text⟩) := by show _ = _; unfold segOk noT; simp [hn0, hnm, hz]
      go_enter Tryd.func16, Tryd.ntmps16
      go_wp2_with fail
      go_ret
      exact ⟨ret_bP HO.out, HB.out⟩
    · have HO : Hid (text.toList.isEmpty = segOk ⟨3, n, text⟩) := by show _ = _; unfold segOk noT; simp [hn0, hnm, hz]
      go_enter Tryd.func16, Tryd.ntmps16
      go_wp2_with fail
      go_ret
      exact ⟨ret_bP HO.out, HB.out⟩
    · have HO : Hid (false = segOk ⟨4, n, text⟩) := by show _ = _; unfold segOk noT; simp [hn0, hnm, hz]
      go_enter Tryd.func16, Tryd.ntmps16
      go_wp2_with fail
      go_ret
      exact ⟨ret_bP HO.out, HB.out⟩
    · have HO : Hid (false = segOk ⟨5, n, text⟩) := by show _ = _; unfold segOk noT; simp [hn0, hnm, hz]
      go_enter Tryd.func16, Tryd.ntmps16
      go_wp2_with fail
      go_ret
      exact ⟨ret_bP HO.out, HB.out⟩
end Go.Proofs.YtmbbmibkjnlkkaaDoor
