/- The contracts of impl.named and impl.fieldsOk. -/
import Derived.Test.YtmbbmibkjnlkkaaZpj
import Derived.WalkLawsBesides
import Derived.WalkSpells
import Derived.WalkMore
import Derived.Handy
import Derived.Laws.ResultCell
namespace Go.Proofs.Ytmbbmibkjnlkkaa
open Go.ChangeShapes Go.WideShapes Go.ChangeAt Go.RowKit
set_option maxHeartbeats 4000000 in
theorem named_1 (style : Int) (flag : Bool) (text anchor tag : ByteArray) (at_ code : Int) (w : World) :
    Calls Try.prog 59 #[.agg #[.int .i64 1, .int .i64 style, .bool flag, .string text, .string anchor, .string tag, .int .i64 at_, .int .i64 code]] w fun r w' => r = .returned (.agg #[.int .i64 1, .int .i64 0, .bool false, .string ⟨#[]⟩, .string ⟨#[]⟩, .string ⟨#[]⟩, .int .i64 0, .int .i64 0]) ∧ Below w.heap.size w w' := by
  have hF : Hid (((w.alloc (.cells #[.int .i64 1, .int .i64 style, .bool flag, .string text, .string anchor, .string tag, .int .i64 at_, .int .i64 code] 38)).alloc (.cells #[.int .i64 1, .int .i64 0, .bool false, .string ⟨#[]⟩, .string ⟨#[]⟩, .string ⟨#[]⟩, .int .i64 0, .int .i64 0] 38)).heap[w.heap.size + 1]? = some (.cells #[.int .i64 1, .int .i64 0, .bool false, .string ⟨#[]⟩, .string ⟨#[]⟩, .string ⟨#[]⟩, .int .i64 0, .int .i64 0] 38 (0, 0))) := by
    show ((w.heap.push _).push _)[w.heap.size + 1]? = _
    rw [Array.getElem?_push, if_pos (by simp)]
  have hB : Hid (Below w.heap.size w ((w.alloc (.cells #[.int .i64 1, .int .i64 style, .bool flag, .string text, .string anchor, .string tag, .int .i64 at_, .int .i64 code] 38)).alloc (.cells #[.int .i64 1, .int .i64 0, .bool false, .string ⟨#[]⟩, .string ⟨#[]⟩, .string ⟨#[]⟩, .int .i64 0, .int .i64 0] 38))) := ((Below.refl _ w).alloc (Nat.le_refl _) _).alloc (by simp) _
  go_enter Try.func59, Try.ntmps59
  go_wp2_with fail
  refine bodyPost_ret (results_cell_row rfl _ _ (w.heap.size + 1) 38 _ (0, 0) _ rfl hF.out Try.underlying38 rfl (by kernel_rfl)) rfl ?_
  exact ⟨rfl, hB.out⟩
set_option maxHeartbeats 4000000 in
theorem named_2 (style : Int) (flag : Bool) (text anchor tag : ByteArray) (at_ code : Int) (w : World) :
    Calls Try.prog 59 #[.agg #[.int .i64 2, .int .i64 style, .bool flag, .string text, .string anchor, .string tag, .int .i64 at_, .int .i64 code]] w fun r w' => r = .returned (.agg #[.int .i64 2, .int .i64 0, .bool flag, .string ⟨#[]⟩, .string ⟨#[]⟩, .string ⟨#[]⟩, .int .i64 0, .int .i64 0]) ∧ Below w.heap.size w w' := by
  have hF : Hid (((w.alloc (.cells #[.int .i64 2, .int .i64 style, .bool flag, .string text, .string anchor, .string tag, .int .i64 at_, .int .i64 code] 38)).alloc (.cells #[.int .i64 2, .int .i64 0, .bool flag, .string ⟨#[]⟩, .string ⟨#[]⟩, .string ⟨#[]⟩, .int .i64 0, .int .i64 0] 38)).heap[w.heap.size + 1]? = some (.cells #[.int .i64 2, .int .i64 0, .bool flag, .string ⟨#[]⟩, .string ⟨#[]⟩, .string ⟨#[]⟩, .int .i64 0, .int .i64 0] 38 (0, 0))) := by
    show ((w.heap.push _).push _)[w.heap.size + 1]? = _
    rw [Array.getElem?_push, if_pos (by simp)]
  have hB : Hid (Below w.heap.size w ((w.alloc (.cells #[.int .i64 2, .int .i64 style, .bool flag, .string text, .string anchor, .string tag, .int .i64 at_, .int .i64 code] 38)).alloc (.cells #[.int .i64 2, .int .i64 0, .bool flag, .string ⟨#[]⟩, .string ⟨#[]⟩, .string ⟨#[]⟩, .int .i64 0, .int .i64 0] 38))) := ((Below.refl _ w).alloc (Nat.le_refl _) _).alloc (by simp) _
  go_enter Try.func59, Try.ntmps59
  go_wp2_with fail
  refine bodyPost_ret (results_cell_row rfl _ _ (w.heap.size + 1) 38 _ (0, 0) _ rfl hF.out Try.underlying38 rfl (by kernel_rfl)) rfl ?_
  exact ⟨rfl, hB.out⟩
set_option maxHeartbeats 4000000 in
theorem named_3 (style : Int) (flag : Bool) (text anchor tag : ByteArray) (at_ code : Int) (w : World) :
    Calls Try.prog 59 #[.agg #[.int .i64 3, .int .i64 style, .bool flag, .string text, .string anchor, .string tag, .int .i64 at_, .int .i64 code]] w fun r w' => r = .returned (.agg #[.int .i64 3, .int .i64 style, .bool false, .string ⟨#[]⟩, .string anchor, .string tag, .int .i64 0, .int .i64 0]) ∧ Below w.heap.size w w' := by
  have hF : Hid (((w.alloc (.cells #[.int .i64 3, .int .i64 style, .bool flag, .string text, .string anchor, .string tag, .int .i64 at_, .int .i64 code] 38)).alloc (.cells #[.int .i64 3, .int .i64 style, .bool false, .string ⟨#[]⟩, .string anchor, .string tag, .int .i64 0, .int .i64 0] 38)).heap[w.heap.size + 1]? = some (.cells #[.int .i64 3, .int .i64 style, .bool false, .string ⟨#[]⟩, .string anchor, .string tag, .int .i64 0, .int .i64 0] 38 (0, 0))) := by
    show ((w.heap.push _).push _)[w.heap.size + 1]? = _
    rw [Array.getElem?_push, if_pos (by simp)]
  have hB : Hid (Below w.heap.size w ((w.alloc (.cells #[.int .i64 3, .int .i64 style, .bool flag, .string text, .string anchor, .string tag, .int .i64 at_, .int .i64 code] 38)).alloc (.cells #[.int .i64 3, .int .i64 style, .bool false, .string ⟨#[]⟩, .string anchor, .string tag, .int .i64 0, .int .i64 0] 38))) := ((Below.refl _ w).alloc (Nat.le_refl _) _).alloc (by simp) _
  go_enter Try.func59, Try.ntmps59
  go_wp2_with fail
  refine bodyPost_ret (results_cell_row rfl _ _ (w.heap.size + 1) 38 _ (0, 0) _ rfl hF.out Try.underlying38 rfl (by kernel_rfl)) rfl ?_
  exact ⟨rfl, hB.out⟩
set_option maxHeartbeats 4000000 in
theorem named_4 (style : Int) (flag : Bool) (text anchor tag : ByteArray) (at_ code : Int) (w : World) :
    Calls Try.prog 59 #[.agg #[.int .i64 4, .int .i64 style, .bool flag, .string text, .string anchor, .string tag, .int .i64 at_, .int .i64 code]] w fun r w' => r = .returned (.agg #[.int .i64 4, .int .i64 style, .bool false, .string ⟨#[]⟩, .string anchor, .string tag, .int .i64 0, .int .i64 0]) ∧ Below w.heap.size w w' := by
  have hF : Hid (((w.alloc (.cells #[.int .i64 4, .int .i64 style, .bool flag, .string text, .string anchor, .string tag, .int .i64 at_, .int .i64 code] 38)).alloc (.cells #[.int .i64 4, .int .i64 style, .bool false, .string ⟨#[]⟩, .string anchor, .string tag, .int .i64 0, .int .i64 0] 38)).heap[w.heap.size + 1]? = some (.cells #[.int .i64 4, .int .i64 style, .bool false, .string ⟨#[]⟩, .string anchor, .string tag, .int .i64 0, .int .i64 0] 38 (0, 0))) := by
    show ((w.heap.push _).push _)[w.heap.size + 1]? = _
    rw [Array.getElem?_push, if_pos (by simp)]
  have hB : Hid (Below w.heap.size w ((w.alloc (.cells #[.int .i64 4, .int .i64 style, .bool flag, .string text, .string anchor, .string tag, .int .i64 at_, .int .i64 code] 38)).alloc (.cells #[.int .i64 4, .int .i64 style, .bool false, .string ⟨#[]⟩, .string anchor, .string tag, .int .i64 0, .int .i64 0] 38))) := ((Below.refl _ w).alloc (Nat.le_refl _) _).alloc (by simp) _
  go_enter Try.func59, Try.ntmps59
  go_wp2_with fail
  refine bodyPost_ret (results_cell_row rfl _ _ (w.heap.size + 1) 38 _ (0, 0) _ rfl hF.out Try.underlying38 rfl (by kernel_rfl)) rfl ?_
  exact ⟨rfl, hB.out⟩
set_option maxHeartbeats 4000000 in
theorem named_5 (style : Int) (flag : Bool) (text anchor tag : ByteArray) (at_ code : Int) (w : World) :
    Calls Try.prog 59 #[.agg #[.int .i64 5, .int .i64 style, .bool flag, .string text, .string anchor, .string tag, .int .i64 at_, .int .i64 code]] w fun r w' => r = .returned (.agg #[.int .i64 5, .int .i64 style, .bool false, .string text, .string anchor, .string tag, .int .i64 0, .int .i64 0]) ∧ Below w.heap.size w w' := by
  have hF : Hid (((w.alloc (.cells #[.int .i64 5, .int .i64 style, .bool flag, .string text, .string anchor, .string tag, .int .i64 at_, .int .i64 code] 38)).alloc (.cells #[.int .i64 5, .int .i64 style, .bool false, .string text, .string anchor, .string tag, .int .i64 0, .int .i64 0] 38)).heap[w.heap.size + 1]? = some (.cells #[.int .i64 5, .int .i64 style, .bool false, .string text, .string anchor, .string tag, .int .i64 0, .int .i64 0] 38 (0, 0))) := by
    show ((w.heap.push _).push _)[w.heap.size + 1]? = _
    rw [Array.getElem?_push, if_pos (by simp)]
  have hB : Hid (Below w.heap.size w ((w.alloc (.cells #[.int .i64 5, .int .i64 style, .bool flag, .string text, .string anchor, .string tag, .int .i64 at_, .int .i64 code] 38)).alloc (.cells #[.int .i64 5, .int .i64 style, .bool false, .string text, .string anchor, .string tag, .int .i64 0, .int .i64 0] 38))) := ((Below.refl _ w).alloc (Nat.le_refl _) _).alloc (by simp) _
  go_enter Try.func59, Try.ntmps59
  go_wp2_with fail
  refine bodyPost_ret (results_cell_row rfl _ _ (w.heap.size + 1) 38 _ (0, 0) _ rfl hF.out Try.underlying38 rfl (by kernel_rfl)) rfl ?_
  exact ⟨rfl, hB.out⟩
set_option maxHeartbeats 4000000 in
theorem named_6 (style : Int) (flag : Bool) (text anchor tag : ByteArray) (at_ code : Int) (w : World) :
    Calls Try.prog 59 #[.agg #[.int .i64 6, .int .i64 style, .bool flag, .string text, .string anchor, .string tag, .int .i64 at_, .int .i64 code]] w fun r w' => r = .returned (.agg #[.int .i64 6, .int .i64 0, .bool false, .string text, .string ⟨#[]⟩, .string ⟨#[]⟩, .int .i64 0, .int .i64 0]) ∧ Below w.heap.size w w' := by
  have hF : Hid (((w.alloc (.cells #[.int .i64 6, .int .i64 style, .bool flag, .string text, .string anchor, .string tag, .int .i64 at_, .int .i64 code] 38)).alloc (.cells #[.int .i64 6, .int .i64 0, .bool false, .string text, .string ⟨#[]⟩, .string ⟨#[]⟩, .int .i64 0, .int .i64 0] 38)).heap[w.heap.size + 1]? = some (.cells #[.int .i64 6, .int .i64 0, .bool false, .string text, .string ⟨#[]⟩, .string ⟨#[]⟩, .int .i64 0, .int .i64 0] 38 (0, 0))) := by
    show ((w.heap.push _).push _)[w.heap.size + 1]? = _
    rw [Array.getElem?_push, if_pos (by simp)]
  have hB : Hid (Below w.heap.size w ((w.alloc (.cells #[.int .i64 6, .int .i64 style, .bool flag, .string text, .string anchor, .string tag, .int .i64 at_, .int .i64 code] 38)).alloc (.cells #[.int .i64 6, .int .i64 0, .bool false, .string text, .string ⟨#[]⟩, .string ⟨#[]⟩, .int .i64 0, .int .i64 0] 38))) := ((Below.refl _ w).alloc (Nat.le_refl _) _).alloc (by simp) _
  go_enter Try.func59, Try.ntmps59
  go_wp2_with fail
  refine bodyPost_ret (results_cell_row rfl _ _ (w.heap.size + 1) 38 _ (0, 0) _ rfl hF.out Try.underlying38 rfl (by kernel_rfl)) rfl ?_
  exact ⟨rfl, hB.out⟩
set_option maxHeartbeats 4000000 in
theorem named_7 (style : Int) (flag : Bool) (text anchor tag : ByteArray) (at_ code : Int) (w : World) :
    Calls Try.prog 59 #[.agg #[.int .i64 7, .int .i64 style, .bool flag, .string text, .string anchor, .string tag, .int .i64 at_, .int .i64 code]] w fun r w' => r = .returned (.agg #[.int .i64 7, .int .i64 0, .bool false, .string ⟨#[]⟩, .string ⟨#[]⟩, .string ⟨#[]⟩, .int .i64 0, .int .i64 0]) ∧ Below w.heap.size w w' := by
  have hF : Hid (((w.alloc (.cells #[.int .i64 7, .int .i64 style, .bool flag, .string text, .string anchor, .string tag, .int .i64 at_, .int .i64 code] 38)).alloc (.cells #[.int .i64 7, .int .i64 0, .bool false, .string ⟨#[]⟩, .string ⟨#[]⟩, .string ⟨#[]⟩, .int .i64 0, .int .i64 0] 38)).heap[w.heap.size + 1]? = some (.cells #[.int .i64 7, .int .i64 0, .bool false, .string ⟨#[]⟩, .string ⟨#[]⟩, .string ⟨#[]⟩, .int .i64 0, .int .i64 0] 38 (0, 0))) := by
    show ((w.heap.push _).push _)[w.heap.size + 1]? = _
    rw [Array.getElem?_push, if_pos (by simp)]
  have hB : Hid (Below w.heap.size w ((w.alloc (.cells #[.int .i64 7, .int .i64 style, .bool flag, .string text, .string anchor, .string tag, .int .i64 at_, .int .i64 code] 38)).alloc (.cells #[.int .i64 7, .int .i64 0, .bool false, .string ⟨#[]⟩, .string ⟨#[]⟩, .string ⟨#[]⟩, .int .i64 0, .int .i64 0] 38))) := ((Below.refl _ w).alloc (Nat.le_refl _) _).alloc (by simp) _
  go_enter Try.func59, Try.ntmps59
  go_wp2_with fail
  refine bodyPost_ret (results_cell_row rfl _ _ (w.heap.size + 1) 38 _ (0, 0) _ rfl hF.out Try.underlying38 rfl (by kernel_rfl)) rfl ?_
  exact ⟨rfl, hB.out⟩
set_option maxHeartbeats 4000000 in
theorem named_8 (style : Int) (flag : Bool) (text anchor tag : ByteArray) (at_ code : Int) (w : World) :
    Calls Try.prog 59 #[.agg #[.int .i64 8, .int .i64 style, .bool flag, .string text, .string anchor, .string tag, .int .i64 at_, .int .i64 code]] w fun r w' => r = .returned (.agg #[.int .i64 8, .int .i64 0, .bool flag, .string ⟨#[]⟩, .string ⟨#[]⟩, .string ⟨#[]⟩, .int .i64 0, .int .i64 0]) ∧ Below w.heap.size w w' := by
  have hF : Hid (((w.alloc (.cells #[.int .i64 8, .int .i64 style, .bool flag, .string text, .string anchor, .string tag, .int .i64 at_, .int .i64 code] 38)).alloc (.cells #[.int .i64 8, .int .i64 0, .bool flag, .string ⟨#[]⟩, .string ⟨#[]⟩, .string ⟨#[]⟩, .int .i64 0, .int .i64 0] 38)).heap[w.heap.size + 1]? = some (.cells #[.int .i64 8, .int .i64 0, .bool flag, .string ⟨#[]⟩, .string ⟨#[]⟩, .string ⟨#[]⟩, .int .i64 0, .int .i64 0] 38 (0, 0))) := by
    show ((w.heap.push _).push _)[w.heap.size + 1]? = _
    rw [Array.getElem?_push, if_pos (by simp)]
  have hB : Hid (Below w.heap.size w ((w.alloc (.cells #[.int .i64 8, .int .i64 style, .bool flag, .string text, .string anchor, .string tag, .int .i64 at_, .int .i64 code] 38)).alloc (.cells #[.int .i64 8, .int .i64 0, .bool flag, .string ⟨#[]⟩, .string ⟨#[]⟩, .string ⟨#[]⟩, .int .i64 0, .int .i64 0] 38))) := ((Below.refl _ w).alloc (Nat.le_refl _) _).alloc (by simp) _
  go_enter Try.func59, Try.ntmps59
  go_wp2_with fail
  refine bodyPost_ret (results_cell_row rfl _ _ (w.heap.size + 1) 38 _ (0, 0) _ rfl hF.out Try.underlying38 rfl (by kernel_rfl)) rfl ?_
  exact ⟨rfl, hB.out⟩
set_option maxHeartbeats 4000000 in
theorem named_9 (style : Int) (flag : Bool) (text anchor tag : ByteArray) (at_ code : Int) (w : World) :
    Calls Try.prog 59 #[.agg #[.int .i64 9, .int .i64 style, .bool flag, .string text, .string anchor, .string tag, .int .i64 at_, .int .i64 code]] w fun r w' => r = .returned (.agg #[.int .i64 9, .int .i64 0, .bool false, .string ⟨#[]⟩, .string ⟨#[]⟩, .string ⟨#[]⟩, .int .i64 0, .int .i64 0]) ∧ Below w.heap.size w w' := by
  have hF : Hid (((w.alloc (.cells #[.int .i64 9, .int .i64 style, .bool flag, .string text, .string anchor, .string tag, .int .i64 at_, .int .i64 code] 38)).alloc (.cells #[.int .i64 9, .int .i64 0, .bool false, .string ⟨#[]⟩, .string ⟨#[]⟩, .string ⟨#[]⟩, .int .i64 0, .int .i64 0] 38)).heap[w.heap.size + 1]? = some (.cells #[.int .i64 9, .int .i64 0, .bool false, .string ⟨#[]⟩, .string ⟨#[]⟩, .string ⟨#[]⟩, .int .i64 0, .int .i64 0] 38 (0, 0))) := by
    show ((w.heap.push _).push _)[w.heap.size + 1]? = _
    rw [Array.getElem?_push, if_pos (by simp)]
  have hB : Hid (Below w.heap.size w ((w.alloc (.cells #[.int .i64 9, .int .i64 style, .bool flag, .string text, .string anchor, .string tag, .int .i64 at_, .int .i64 code] 38)).alloc (.cells #[.int .i64 9, .int .i64 0, .bool false, .string ⟨#[]⟩, .string ⟨#[]⟩, .string ⟨#[]⟩, .int .i64 0, .int .i64 0] 38))) := ((Below.refl _ w).alloc (Nat.le_refl _) _).alloc (by simp) _
  go_enter Try.func59, Try.ntmps59
  go_wp2_with fail
  refine bodyPost_ret (results_cell_row rfl _ _ (w.heap.size + 1) 38 _ (0, 0) _ rfl hF.out Try.underlying38 rfl (by kernel_rfl)) rfl ?_
  exact ⟨rfl, hB.out⟩
set_option maxHeartbeats 4000000 in
theorem named_10 (style : Int) (flag : Bool) (text anchor tag : ByteArray) (at_ code : Int) (w : World) :
    Calls Try.prog 59 #[.agg #[.int .i64 10, .int .i64 style, .bool flag, .string text, .string anchor, .string tag, .int .i64 at_, .int .i64 code]] w fun r w' => r = .returned (.agg #[.int .i64 10, .int .i64 0, .bool false, .string ⟨#[]⟩, .string ⟨#[]⟩, .string ⟨#[]⟩, .int .i64 at_, .int .i64 code]) ∧ Below w.heap.size w w' := by
  have hF : Hid (((w.alloc (.cells #[.int .i64 10, .int .i64 style, .bool flag, .string text, .string anchor, .string tag, .int .i64 at_, .int .i64 code] 38)).alloc (.cells #[.int .i64 10, .int .i64 0, .bool false, .string ⟨#[]⟩, .string ⟨#[]⟩, .string ⟨#[]⟩, .int .i64 at_, .int .i64 code] 38)).heap[w.heap.size + 1]? = some (.cells #[.int .i64 10, .int .i64 0, .bool false, .string ⟨#[]⟩, .string ⟨#[]⟩, .string ⟨#[]⟩, .int .i64 at_, .int .i64 code] 38 (0, 0))) := by
    show ((w.heap.push _).push _)[w.heap.size + 1]? = _
    rw [Array.getElem?_push, if_pos (by simp)]
  have hB : Hid (Below w.heap.size w ((w.alloc (.cells #[.int .i64 10, .int .i64 style, .bool flag, .string text, .string anchor, .string tag, .int .i64 at_, .int .i64 code] 38)).alloc (.cells #[.int .i64 10, .int .i64 0, .bool false, .string ⟨#[]⟩, .string ⟨#[]⟩, .string ⟨#[]⟩, .int .i64 at_, .int .i64 code] 38))) := ((Below.refl _ w).alloc (Nat.le_refl _) _).alloc (by simp) _
  go_enter Try.func59, Try.ntmps59
  go_wp2_with fail
  refine bodyPost_ret (results_cell_row rfl _ _ (w.heap.size + 1) 38 _ (0, 0) _ rfl hF.out Try.underlying38 rfl (by kernel_rfl)) rfl ?_
  exact ⟨rfl, hB.out⟩
set_option maxHeartbeats 4000000 in
theorem named_99 (kind : Int) (n1 : (kind == 1) = false) (n2 : (kind == 2) = false) (n3 : (kind == 3) = false) (n4 : (kind == 4) = false) (n5 : (kind == 5) = false) (n6 : (kind == 6) = false) (n7 : (kind == 7) = false) (n8 : (kind == 8) = false) (n9 : (kind == 9) = false) (n10 : (kind == 10) = false) (style : Int) (flag : Bool) (text anchor tag : ByteArray) (at_ code : Int) (w : World) :
    Calls Try.prog 59 #[.agg #[.int .i64 kind, .int .i64 style, .bool flag, .string text, .string anchor, .string tag, .int .i64 at_, .int .i64 code]] w fun r w' => r = .returned (.agg #[.int .i64 0, .int .i64 0, .bool false, .string ⟨#[]⟩, .string ⟨#[]⟩, .string ⟨#[]⟩, .int .i64 0, .int .i64 0]) ∧ Below w.heap.size w w' := by
  have hF : Hid (((w.alloc (.cells #[.int .i64 kind, .int .i64 style, .bool flag, .string text, .string anchor, .string tag, .int .i64 at_, .int .i64 code] 38)).alloc (.cells #[.int .i64 0, .int .i64 0, .bool false, .string ⟨#[]⟩, .string ⟨#[]⟩, .string ⟨#[]⟩, .int .i64 0, .int .i64 0] 38)).heap[w.heap.size + 1]? = some (.cells #[.int .i64 0, .int .i64 0, .bool false, .string ⟨#[]⟩, .string ⟨#[]⟩, .string ⟨#[]⟩, .int .i64 0, .int .i64 0] 38 (0, 0))) := by
    show ((w.heap.push _).push _)[w.heap.size + 1]? = _
    rw [Array.getElem?_push, if_pos (by simp)]
  have hB : Hid (Below w.heap.size w ((w.alloc (.cells #[.int .i64 kind, .int .i64 style, .bool flag, .string text, .string anchor, .string tag, .int .i64 at_, .int .i64 code] 38)).alloc (.cells #[.int .i64 0, .int .i64 0, .bool false, .string ⟨#[]⟩, .string ⟨#[]⟩, .string ⟨#[]⟩, .int .i64 0, .int .i64 0] 38))) := ((Below.refl _ w).alloc (Nat.le_refl _) _).alloc (by simp) _
  go_enter Try.func59, Try.ntmps59
  go_wp2_with fail
  refine bodyPost_ret (results_cell_row rfl _ _ (w.heap.size + 1) 38 _ (0, 0) _ rfl hF.out Try.underlying38 rfl (by kernel_rfl)) rfl ?_
  exact ⟨rfl, hB.out⟩
theorem named_any (e : Ev) (w : World) :
    Calls Try.prog 59 #[.agg e.row] w fun r w' => r = .returned (.agg (namedE e).row) ∧ Below w.heap.size w w' := by
  obtain ⟨kind, style, flag, text, anchor, tag, at_, code⟩ := e
  have hk : kind = 1 ∨ kind = 2 ∨ kind = 3 ∨ kind = 4 ∨ kind = 5 ∨ kind = 6 ∨ kind = 7 ∨ kind = 8 ∨ kind = 9 ∨ kind = 10 ∨ (kind < 1 ∨ 10 < kind) := by omega
  rcases hk with rfl | rfl | rfl | rfl | rfl | rfl | rfl | rfl | rfl | rfl | hk
  · exact named_1 style flag text anchor tag at_ code w
  · exact named_2 style flag text anchor tag at_ code w
  · exact named_3 style flag text anchor tag at_ code w
  · exact named_4 style flag text anchor tag at_ code w
  · exact named_5 style flag text anchor tag at_ code w
  · exact named_6 style flag text anchor tag at_ code w
  · exact named_7 style flag text anchor tag at_ code w
  · exact named_8 style flag text anchor tag at_ code w
  · exact named_9 style flag text anchor tag at_ code w
  · exact named_10 style flag text anchor tag at_ code w
  · have hn : namedE ⟨kind, style, flag, text, anchor, tag, at_, code⟩ = ⟨0, 0, false, ze, ze, ze, 0, 0⟩ := by
      unfold namedE
      simp only
      rw [if_neg (by omega), if_neg (by omega), if_neg (by omega), if_neg (by omega), if_neg (by omega), if_neg (by omega)]
    rw [hn]
    exact named_99 kind (by rw [beq_eq_false_iff_ne]; omega) (by rw [beq_eq_false_iff_ne]; omega) (by rw [beq_eq_false_iff_ne]; omega) (by rw [beq_eq_false_iff_ne]; omega) (by rw [beq_eq_false_iff_ne]; omega) (by rw [beq_eq_false_iff_ne]; omega) (by rw [beq_eq_false_iff_ne]; omega) (by rw [beq_eq_false_iff_ne]; omega) (by rw [beq_eq_false_iff_ne]; omega) (by rw [beq_eq_false_iff_ne]; omega) style flag text anchor tag at_ code w
set_option maxHeartbeats 4000000 in
theorem fields_1  (style : Int) (flag : Bool) (text anchor tag : ByteArray) (at_ code : Int) (w : World) :
    Calls Try.prog 60 #[.agg #[.int .i64 1, .int .i64 style, .bool flag, .string text, .string anchor, .string tag, .int .i64 at_, .int .i64 code]] w fun r w' => r = .returned (.bool true) ∧ Below w.heap.size w w' := by
  have HAL : Hid (Below w.heap.size w (w.alloc (.cells #[.int .i64 1, .int .i64 style, .bool flag, .string text, .string anchor, .string tag, .int .i64 at_, .int .i64 code] 38))) := (Below.refl _ w).alloc (Nat.le_refl _) _
  go_enter Try.func60, Try.ntmps60
  go_wp2_with fail
  go_ret
  exact ⟨rfl, HAL.out⟩
set_option maxHeartbeats 4000000 in
theorem fields_2  (style : Int) (flag : Bool) (text anchor tag : ByteArray) (at_ code : Int) (w : World) :
    Calls Try.prog 60 #[.agg #[.int .i64 2, .int .i64 style, .bool flag, .string text, .string anchor, .string tag, .int .i64 at_, .int .i64 code]] w fun r w' => r = .returned (.bool true) ∧ Below w.heap.size w w' := by
  have HAL : Hid (Below w.heap.size w (w.alloc (.cells #[.int .i64 2, .int .i64 style, .bool flag, .string text, .string anchor, .string tag, .int .i64 at_, .int .i64 code] 38))) := (Below.refl _ w).alloc (Nat.le_refl _) _
  go_enter Try.func60, Try.ntmps60
  go_wp2_with fail
  go_ret
  exact ⟨rfl, HAL.out⟩
set_option maxHeartbeats 4000000 in
theorem fields_7  (style : Int) (flag : Bool) (text anchor tag : ByteArray) (at_ code : Int) (w : World) :
    Calls Try.prog 60 #[.agg #[.int .i64 7, .int .i64 style, .bool flag, .string text, .string anchor, .string tag, .int .i64 at_, .int .i64 code]] w fun r w' => r = .returned (.bool true) ∧ Below w.heap.size w w' := by
  have HAL : Hid (Below w.heap.size w (w.alloc (.cells #[.int .i64 7, .int .i64 style, .bool flag, .string text, .string anchor, .string tag, .int .i64 at_, .int .i64 code] 38))) := (Below.refl _ w).alloc (Nat.le_refl _) _
  go_enter Try.func60, Try.ntmps60
  go_wp2_with fail
  go_ret
  exact ⟨rfl, HAL.out⟩
set_option maxHeartbeats 4000000 in
theorem fields_8  (style : Int) (flag : Bool) (text anchor tag : ByteArray) (at_ code : Int) (w : World) :
    Calls Try.prog 60 #[.agg #[.int .i64 8, .int .i64 style, .bool flag, .string text, .string anchor, .string tag, .int .i64 at_, .int .i64 code]] w fun r w' => r = .returned (.bool true) ∧ Below w.heap.size w w' := by
  have HAL : Hid (Below w.heap.size w (w.alloc (.cells #[.int .i64 8, .int .i64 style, .bool flag, .string text, .string anchor, .string tag, .int .i64 at_, .int .i64 code] 38))) := (Below.refl _ w).alloc (Nat.le_refl _) _
  go_enter Try.func60, Try.ntmps60
  go_wp2_with fail
  go_ret
  exact ⟨rfl, HAL.out⟩
set_option maxHeartbeats 4000000 in
theorem fields_9  (style : Int) (flag : Bool) (text anchor tag : ByteArray) (at_ code : Int) (w : World) :
    Calls Try.prog 60 #[.agg #[.int .i64 9, .int .i64 style, .bool flag, .string text, .string anchor, .string tag, .int .i64 at_, .int .i64 code]] w fun r w' => r = .returned (.bool true) ∧ Below w.heap.size w w' := by
  have HAL : Hid (Below w.heap.size w (w.alloc (.cells #[.int .i64 9, .int .i64 style, .bool flag, .string text, .string anchor, .string tag, .int .i64 at_, .int .i64 code] 38))) := (Below.refl _ w).alloc (Nat.le_refl _) _
  go_enter Try.func60, Try.ntmps60
  go_wp2_with fail
  go_ret
  exact ⟨rfl, HAL.out⟩
set_option maxHeartbeats 4000000 in
theorem fields_99 (kind : Int) (n1 : (kind == 1) = false) (n2 : (kind == 2) = false) (n3 : (kind == 3) = false) (n4 : (kind == 4) = false) (n5 : (kind == 5) = false) (n6 : (kind == 6) = false) (n7 : (kind == 7) = false) (n8 : (kind == 8) = false) (n9 : (kind == 9) = false) (n10 : (kind == 10) = false) (style : Int) (flag : Bool) (text anchor tag : ByteArray) (at_ code : Int) (w : World) :
    Calls Try.prog 60 #[.agg #[.int .i64 kind, .int .i64 style, .bool flag, .string text, .string anchor, .string tag, .int .i64 at_, .int .i64 code]] w fun r w' => r = .returned (.bool false) ∧ Below w.heap.size w w' := by
  have HAL : Hid (Below w.heap.size w (w.alloc (.cells #[.int .i64 kind, .int .i64 style, .bool flag, .string text, .string anchor, .string tag, .int .i64 at_, .int .i64 code] 38))) := (Below.refl _ w).alloc (Nat.le_refl _) _
  go_enter Try.func60, Try.ntmps60
  go_wp2_with fail
  go_ret
  exact ⟨rfl, HAL.out⟩
set_option maxHeartbeats 4000000 in
theorem fields_3_6  (flag : Bool) (text anchor tag : ByteArray) (at_ code : Int) (w : World) (m : Bool) (cP : Hid (∀ w, Calls Try.prog 66 #[.agg #[.int .i64 3, .int .i64 6, .bool flag, .string text, .string anchor, .string tag, .int .i64 at_, .int .i64 code]] w fun r w' => r = .returned (.bool m) ∧ Below w.heap.size w w')) :
    Calls Try.prog 60 #[.agg #[.int .i64 3, .int .i64 6, .bool flag, .string text, .string anchor, .string tag, .int .i64 at_, .int .i64 code]] w fun r w' => r = .returned (.bool m) ∧ Below w.heap.size w w' := by
  have HAL : Hid (Below w.heap.size w (w.alloc (.cells #[.int .i64 3, .int .i64 6, .bool flag, .string text, .string anchor, .string tag, .int .i64 at_, .int .i64 code] 38))) := (Below.refl _ w).alloc (Nat.le_refl _) _
  go_enter Try.func60, Try.ntmps60
  go_wp2_with fail
  refine (cP.out _).mono ?_
  rintro e w1 ⟨rfl, hb1⟩
  clear cP
  go_wp2_with fail
  go_ret
  exact ⟨rfl, HAL.out.trans (hb1.mono HAL.out.size)⟩
set_option maxHeartbeats 4000000 in
theorem fields_3_7  (flag : Bool) (text anchor tag : ByteArray) (at_ code : Int) (w : World) (m : Bool) (cP : Hid (∀ w, Calls Try.prog 66 #[.agg #[.int .i64 3, .int .i64 7, .bool flag, .string text, .string anchor, .string tag, .int .i64 at_, .int .i64 code]] w fun r w' => r = .returned (.bool m) ∧ Below w.heap.size w w')) :
    Calls Try.prog 60 #[.agg #[.int .i64 3, .int .i64 7, .bool flag, .string text, .string anchor, .string tag, .int .i64 at_, .int .i64 code]] w fun r w' => r = .returned (.bool m) ∧ Below w.heap.size w w' := by
  have HAL : Hid (Below w.heap.size w (w.alloc (.cells #[.int .i64 3, .int .i64 7, .bool flag, .string text, .string anchor, .string tag, .int .i64 at_, .int .i64 code] 38))) := (Below.refl _ w).alloc (Nat.le_refl _) _
  go_enter Try.func60, Try.ntmps60
  go_wp2_with fail
  refine (cP.out _).mono ?_
  rintro e w1 ⟨rfl, hb1⟩
  clear cP
  go_wp2_with fail
  go_ret
  exact ⟨rfl, HAL.out.trans (hb1.mono HAL.out.size)⟩
set_option maxHeartbeats 4000000 in
theorem fields_3_n  (style : Int) (flag : Bool) (text anchor tag : ByteArray) (at_ code : Int) (w : World) (s6 : (style == 6) = false) (s7 : (style == 7) = false) :
    Calls Try.prog 60 #[.agg #[.int .i64 3, .int .i64 style, .bool flag, .string text, .string anchor, .string tag, .int .i64 at_, .int .i64 code]] w fun r w' => r = .returned (.bool false) ∧ Below w.heap.size w w' := by
  have HAL : Hid (Below w.heap.size w (w.alloc (.cells #[.int .i64 3, .int .i64 style, .bool flag, .string text, .string anchor, .string tag, .int .i64 at_, .int .i64 code] 38))) := (Below.refl _ w).alloc (Nat.le_refl _) _
  go_enter Try.func60, Try.ntmps60
  go_wp2_with fail
  go_ret
  exact ⟨rfl, HAL.out⟩
set_option maxHeartbeats 4000000 in
theorem fields_4_6  (flag : Bool) (text anchor tag : ByteArray) (at_ code : Int) (w : World) (m : Bool) (cP : Hid (∀ w, Calls Try.prog 66 #[.agg #[.int .i64 4, .int .i64 6, .bool flag, .string text, .string anchor, .string tag, .int .i64 at_, .int .i64 code]] w fun r w' => r = .returned (.bool m) ∧ Below w.heap.size w w')) :
    Calls Try.prog 60 #[.agg #[.int .i64 4, .int .i64 6, .bool flag, .string text, .string anchor, .string tag, .int .i64 at_, .int .i64 code]] w fun r w' => r = .returned (.bool m) ∧ Below w.heap.size w w' := by
  have HAL : Hid (Below w.heap.size w (w.alloc (.cells #[.int .i64 4, .int .i64 6, .bool flag, .string text, .string anchor, .string tag, .int .i64 at_, .int .i64 code] 38))) := (Below.refl _ w).alloc (Nat.le_refl _) _
  go_enter Try.func60, Try.ntmps60
  go_wp2_with fail
  refine (cP.out _).mono ?_
  rintro e w1 ⟨rfl, hb1⟩
  clear cP
  go_wp2_with fail
  go_ret
  exact ⟨rfl, HAL.out.trans (hb1.mono HAL.out.size)⟩
set_option maxHeartbeats 4000000 in
theorem fields_4_7  (flag : Bool) (text anchor tag : ByteArray) (at_ code : Int) (w : World) (m : Bool) (cP : Hid (∀ w, Calls Try.prog 66 #[.agg #[.int .i64 4, .int .i64 7, .bool flag, .string text, .string anchor, .string tag, .int .i64 at_, .int .i64 code]] w fun r w' => r = .returned (.bool m) ∧ Below w.heap.size w w')) :
    Calls Try.prog 60 #[.agg #[.int .i64 4, .int .i64 7, .bool flag, .string text, .string anchor, .string tag, .int .i64 at_, .int .i64 code]] w fun r w' => r = .returned (.bool m) ∧ Below w.heap.size w w' := by
  have HAL : Hid (Below w.heap.size w (w.alloc (.cells #[.int .i64 4, .int .i64 7, .bool flag, .string text, .string anchor, .string tag, .int .i64 at_, .int .i64 code] 38))) := (Below.refl _ w).alloc (Nat.le_refl _) _
  go_enter Try.func60, Try.ntmps60
  go_wp2_with fail
  refine (cP.out _).mono ?_
  rintro e w1 ⟨rfl, hb1⟩
  clear cP
  go_wp2_with fail
  go_ret
  exact ⟨rfl, HAL.out.trans (hb1.mono HAL.out.size)⟩
set_option maxHeartbeats 4000000 in
theorem fields_4_n  (style : Int) (flag : Bool) (text anchor tag : ByteArray) (at_ code : Int) (w : World) (s6 : (style == 6) = false) (s7 : (style == 7) = false) :
    Calls Try.prog 60 #[.agg #[.int .i64 4, .int .i64 style, .bool flag, .string text, .string anchor, .string tag, .int .i64 at_, .int .i64 code]] w fun r w' => r = .returned (.bool false) ∧ Below w.heap.size w w' := by
  have HAL : Hid (Below w.heap.size w (w.alloc (.cells #[.int .i64 4, .int .i64 style, .bool flag, .string text, .string anchor, .string tag, .int .i64 at_, .int .i64 code] 38))) := (Below.refl _ w).alloc (Nat.le_refl _) _
  go_enter Try.func60, Try.ntmps60
  go_wp2_with fail
  go_ret
  exact ⟨rfl, HAL.out⟩
set_option maxHeartbeats 4000000 in
theorem fields_5_y  (style : Int) (flag : Bool) (text anchor tag : ByteArray) (at_ code : Int) (w : World) (s1 : 1 ≤ style) (s5 : style ≤ 5) (m : Bool) (cP : Hid (∀ w, Calls Try.prog 66 #[.agg #[.int .i64 5, .int .i64 style, .bool flag, .string text, .string anchor, .string tag, .int .i64 at_, .int .i64 code]] w fun r w' => r = .returned (.bool m) ∧ Below w.heap.size w w')) :
    Calls Try.prog 60 #[.agg #[.int .i64 5, .int .i64 style, .bool flag, .string text, .string anchor, .string tag, .int .i64 at_, .int .i64 code]] w fun r w' => r = .returned (.bool m) ∧ Below w.heap.size w w' := by
  have HAL : Hid (Below w.heap.size w (w.alloc (.cells #[.int .i64 5, .int .i64 style, .bool flag, .string text, .string anchor, .string tag, .int .i64 at_, .int .i64 code] 38))) := (Below.refl _ w).alloc (Nat.le_refl _) _
  go_enter Try.func60, Try.ntmps60
  go_wp2_with fail
  refine (cP.out _).mono ?_
  rintro e w1 ⟨rfl, hb1⟩
  clear cP
  go_wp2_with fail
  go_ret
  exact ⟨rfl, HAL.out.trans (hb1.mono HAL.out.size)⟩
set_option maxHeartbeats 4000000 in
theorem fields_5_l  (style : Int) (flag : Bool) (text anchor tag : ByteArray) (at_ code : Int) (w : World) (s1 : ¬ 1 ≤ style) :
    Calls Try.prog 60 #[.agg #[.int .i64 5, .int .i64 style, .bool flag, .string text, .string anchor, .string tag, .int .i64 at_, .int .i64 code]] w fun r w' => r = .returned (.bool false) ∧ Below w.heap.size w w' := by
  have HAL : Hid (Below w.heap.size w (w.alloc (.cells #[.int .i64 5, .int .i64 style, .bool flag, .string text, .string anchor, .string tag, .int .i64 at_, .int .i64 code] 38))) := (Below.refl _ w).alloc (Nat.le_refl _) _
  go_enter Try.func60, Try.ntmps60
  go_wp2_with fail
  go_ret
  exact ⟨rfl, HAL.out⟩
set_option maxHeartbeats 4000000 in
theorem fields_5_h  (style : Int) (flag : Bool) (text anchor tag : ByteArray) (at_ code : Int) (w : World) (s1 : 1 ≤ style) (s5 : ¬ style ≤ 5) :
    Calls Try.prog 60 #[.agg #[.int .i64 5, .int .i64 style, .bool flag, .string text, .string anchor, .string tag, .int .i64 at_, .int .i64 code]] w fun r w' => r = .returned (.bool false) ∧ Below w.heap.size w w' := by
  have HAL : Hid (Below w.heap.size w (w.alloc (.cells #[.int .i64 5, .int .i64 style, .bool flag, .string text, .string anchor, .string tag, .int .i64 at_, .int .i64 code] 38))) := (Below.refl _ w).alloc (Nat.le_refl _) _
  go_enter Try.func60, Try.ntmps60
  go_wp2_with fail
  go_ret
  exact ⟨rfl, HAL.out⟩
set_option maxHeartbeats 4000000 in
theorem fields_6_n  (style : Int) (flag : Bool) (text anchor tag : ByteArray) (at_ code : Int) (w : World) (t0 : text.toList = []) :
    Calls Try.prog 60 #[.agg #[.int .i64 6, .int .i64 style, .bool flag, .string text, .string anchor, .string tag, .int .i64 at_, .int .i64 code]] w fun r w' => r = .returned (.bool false) ∧ Below w.heap.size w w' := by
  have HAL : Hid (Below w.heap.size w (w.alloc (.cells #[.int .i64 6, .int .i64 style, .bool flag, .string text, .string anchor, .string tag, .int .i64 at_, .int .i64 code] 38))) := (Below.refl _ w).alloc (Nat.le_refl _) _
  go_enter Try.func60, Try.ntmps60
  go_wp2_with fail
  go_ret
  exact ⟨rfl, HAL.out⟩
set_option maxHeartbeats 4000000 in
theorem fields_6_y  (style : Int) (flag : Bool) (text anchor tag : ByteArray) (at_ code : Int) (w : World) (t0 : ¬ text.toList = []) (m : Bool) (cP : Hid (∀ w, Calls Try.prog 67 #[.string text] w fun r w' => r = .returned (.bool m) ∧ Below w.heap.size w w')) :
    Calls Try.prog 60 #[.agg #[.int .i64 6, .int .i64 style, .bool flag, .string text, .string anchor, .string tag, .int .i64 at_, .int .i64 code]] w fun r w' => r = .returned (.bool m) ∧ Below w.heap.size w w' := by
  have HAL : Hid (Below w.heap.size w (w.alloc (.cells #[.int .i64 6, .int .i64 style, .bool flag, .string text, .string anchor, .string tag, .int .i64 at_, .int .i64 code] 38))) := (Below.refl _ w).alloc (Nat.le_refl _) _
  go_enter Try.func60, Try.ntmps60
  go_wp2_with fail
  refine (cP.out _).mono ?_
  rintro e w1 ⟨rfl, hb1⟩
  clear cP
  go_wp2_with fail
  go_ret
  exact ⟨ret_bool (by rw [List.isEmpty_eq_false_iff.2 t0]; rfl), HAL.out.trans (hb1.mono HAL.out.size)⟩
set_option maxHeartbeats 4000000 in
theorem fields_10_a  (style : Int) (flag : Bool) (text anchor tag : ByteArray) (at_ code : Int) (w : World) (c1 : ¬ 1 ≤ code) :
    Calls Try.prog 60 #[.agg #[.int .i64 10, .int .i64 style, .bool flag, .string text, .string anchor, .string tag, .int .i64 at_, .int .i64 code]] w fun r w' => r = .returned (.bool false) ∧ Below w.heap.size w w' := by
  have HAL : Hid (Below w.heap.size w (w.alloc (.cells #[.int .i64 10, .int .i64 style, .bool flag, .string text, .string anchor, .string tag, .int .i64 at_, .int .i64 code] 38))) := (Below.refl _ w).alloc (Nat.le_refl _) _
  go_enter Try.func60, Try.ntmps60
  go_wp2_with fail
  go_ret
  exact ⟨rfl, HAL.out⟩
set_option maxHeartbeats 4000000 in
theorem fields_10_b  (style : Int) (flag : Bool) (text anchor tag : ByteArray) (at_ code : Int) (w : World) (c1 : 1 ≤ code) (c9 : ¬ code ≤ 99) :
    Calls Try.prog 60 #[.agg #[.int .i64 10, .int .i64 style, .bool flag, .string text, .string anchor, .string tag, .int .i64 at_, .int .i64 code]] w fun r w' => r = .returned (.bool false) ∧ Below w.heap.size w w' := by
  have HAL : Hid (Below w.heap.size w (w.alloc (.cells #[.int .i64 10, .int .i64 style, .bool flag, .string text, .string anchor, .string tag, .int .i64 at_, .int .i64 code] 38))) := (Below.refl _ w).alloc (Nat.le_refl _) _
  go_enter Try.func60, Try.ntmps60
  go_wp2_with fail
  go_ret
  exact ⟨rfl, HAL.out⟩
set_option maxHeartbeats 4000000 in
theorem fields_10_c  (style : Int) (flag : Bool) (text anchor tag : ByteArray) (at_ code : Int) (w : World) (c1 : 1 ≤ code) (c9 : code ≤ 99) (a0 : ¬ 0 ≤ at_) :
    Calls Try.prog 60 #[.agg #[.int .i64 10, .int .i64 style, .bool flag, .string text, .string anchor, .string tag, .int .i64 at_, .int .i64 code]] w fun r w' => r = .returned (.bool false) ∧ Below w.heap.size w w' := by
  have HAL : Hid (Below w.heap.size w (w.alloc (.cells #[.int .i64 10, .int .i64 style, .bool flag, .string text, .string anchor, .string tag, .int .i64 at_, .int .i64 code] 38))) := (Below.refl _ w).alloc (Nat.le_refl _) _
  go_enter Try.func60, Try.ntmps60
  go_wp2_with fail
  go_ret
  exact ⟨rfl, HAL.out⟩
set_option maxHeartbeats 4000000 in
theorem fields_10_d  (style : Int) (flag : Bool) (text anchor tag : ByteArray) (at_ code : Int) (w : World) (c1 : 1 ≤ code) (c9 : code ≤ 99) (a0 : 0 ≤ at_) :
    Calls Try.prog 60 #[.agg #[.int .i64 10, .int .i64 style, .bool flag, .string text, .string anchor, .string tag, .int .i64 at_, .int .i64 code]] w fun r w' => r = .returned (.bool true) ∧ Below w.heap.size w w' := by
  have HAL : Hid (Below w.heap.size w (w.alloc (.cells #[.int .i64 10, .int .i64 style, .bool flag, .string text, .string anchor, .string tag, .int .i64 at_, .int .i64 code] 38))) := (Below.refl _ w).alloc (Nat.le_refl _) _
  go_enter Try.func60, Try.ntmps60
  go_wp2_with fail
  go_ret
  exact ⟨rfl, HAL.out⟩
theorem fields_any (e : Ev) (w : World) (hs : e.text.size ≤ mx ∧ e.anchor.size ≤ mx ∧ e.tag.size ≤ mx) :
    Calls Try.prog 60 #[.agg e.row] w fun r w' => r = .returned (.bool (fieldsE e)) ∧ Below w.heap.size w w' := by
  obtain ⟨kind, style, flag, text, anchor, tag, at_, code⟩ := e
  obtain ⟨h1, h2, h3⟩ := hs
  have hk : kind = 1 ∨ kind = 2 ∨ kind = 3 ∨ kind = 4 ∨ kind = 5 ∨ kind = 6 ∨ kind = 7 ∨ kind = 8 ∨ kind = 9 ∨ kind = 10 ∨ (kind < 1 ∨ 10 < kind) := by omega
  have cP : ∀ k, Hid (∀ w, Calls Try.prog 66 #[.agg #[.int .i64 k, .int .i64 style, .bool flag, .string text, .string anchor, .string tag, .int .i64 at_, .int .i64 code]] w fun r w' => r = .returned (.bool (prOk ⟨k, style, flag, text, anchor, tag, at_, code⟩)) ∧ Below w.heap.size w w') := fun k w => propsOk_any ⟨k, style, flag, text, anchor, tag, at_, code⟩ w h2 h3 _ rfl
  rcases hk with rfl | rfl | rfl | rfl | rfl | rfl | rfl | rfl | rfl | rfl | hk
  · exact fields_1 style flag text anchor tag at_ code w
  · exact fields_2 style flag text anchor tag at_ code w
  · by_cases a : style = 6
    · subst a
      exact fields_3_6 flag text anchor tag at_ code w _ (cP 3)
    · by_cases b : style = 7
      · subst b
        exact fields_3_7 flag text anchor tag at_ code w _ (cP 3)
      · have a' : (style == 6) = false := by rw [beq_eq_false_iff_ne]; exact a
        have b' : (style == 7) = false := by rw [beq_eq_false_iff_ne]; exact b
        have hf : fieldsE ⟨3, style, flag, text, anchor, tag, at_, code⟩ = false := by
          show ((style == 6 || style == 7) && _) = false
          rw [a', b']; rfl
        rw [hf]
        exact fields_3_n style flag text anchor tag at_ code w a' b'
  · by_cases a : style = 6
    · subst a
      exact fields_4_6 flag text anchor tag at_ code w _ (cP 4)
    · by_cases b : style = 7
      · subst b
        exact fields_4_7 flag text anchor tag at_ code w _ (cP 4)
      · have a' : (style == 6) = false := by rw [beq_eq_false_iff_ne]; exact a
        have b' : (style == 7) = false := by rw [beq_eq_false_iff_ne]; exact b
        have hf : fieldsE ⟨4, style, flag, text, anchor, tag, at_, code⟩ = false := by
          show ((style == 6 || style == 7) && _) = false
          rw [a', b']; rfl
        rw [hf]
        exact fields_4_n style flag text anchor tag at_ code w a' b'
  · by_cases a : 1 ≤ style
    · by_cases b : style ≤ 5
      · have hf : fieldsE ⟨5, style, flag, text, anchor, tag, at_, code⟩ = prOk ⟨5, style, flag, text, anchor, tag, at_, code⟩ := by
          show (decide (1 ≤ style ∧ style ≤ 5) && _) = _
          rw [decide_eq_true ⟨a, b⟩, Bool.true_and]
        rw [hf]
        exact fields_5_y style flag text anchor tag at_ code w a b _ (cP 5)
      · have hf : fieldsE ⟨5, style, flag, text, anchor, tag, at_, code⟩ = false := by
          show (decide (1 ≤ style ∧ style ≤ 5) && _) = _
          rw [decide_eq_false (by omega), Bool.false_and]
        rw [hf]
        exact fields_5_h style flag text anchor tag at_ code w a b
    · have hf : fieldsE ⟨5, style, flag, text, anchor, tag, at_, code⟩ = false := by
        show (decide (1 ≤ style ∧ style ≤ 5) && _) = _
        rw [decide_eq_false (by omega), Bool.false_and]
      rw [hf]
      exact fields_5_l style flag text anchor tag at_ code w a
  · cases hn : noB text with
    | true =>
      have hf : fieldsE ⟨6, style, flag, text, anchor, tag, at_, code⟩ = false := by
        show (!noB text && _) = _
        rw [hn]; rfl
      rw [hf]
      exact fields_6_n style flag text anchor tag at_ code w (by simpa [noB] using hn)
    | false =>
      have hf : fieldsE ⟨6, style, flag, text, anchor, tag, at_, code⟩ = nmOk text := by
        show (!noB text && _) = _
        rw [hn]; rfl
      rw [hf]
      exact fields_6_y style flag text anchor tag at_ code w (by simpa [noB] using hn) _ (fun w => nameOk_any text w h1 _ rfl)
  · exact fields_7 style flag text anchor tag at_ code w
  · exact fields_8 style flag text anchor tag at_ code w
  · exact fields_9 style flag text anchor tag at_ code w
  · have hf : fieldsE ⟨10, style, flag, text, anchor, tag, at_, code⟩ = (decide (1 ≤ code ∧ code ≤ 99) && decide (0 ≤ at_)) := rfl
    rw [hf]
    by_cases a : 1 ≤ code
    · by_cases b : code ≤ 99
      · rw [decide_eq_true ⟨a, b⟩, Bool.true_and]
        by_cases c : 0 ≤ at_
        · rw [decide_eq_true c]
          exact fields_10_d style flag text anchor tag at_ code w a b c
        · rw [decide_eq_false c]
          exact fields_10_c style flag text anchor tag at_ code w a b c
      · rw [decide_eq_false (by omega), Bool.false_and]
        exact fields_10_b style flag text anchor tag at_ code w a b
    · rw [decide_eq_false (by omega), Bool.false_and]
      exact fields_10_a style flag text anchor tag at_ code w a
  · have hf : fieldsE ⟨kind, style, flag, text, anchor, tag, at_, code⟩ = false := by
      unfold fieldsE
      simp only
      rw [if_neg (by omega), if_neg (by omega), if_neg (by omega), if_neg (by omega)]
      exact decide_eq_false (by omega)
    rw [hf]
    exact fields_99 kind (by rw [beq_eq_false_iff_ne]; omega) (by rw [beq_eq_false_iff_ne]; omega) (by rw [beq_eq_false_iff_ne]; omega) (by rw [beq_eq_false_iff_ne]; omega) (by rw [beq_eq_false_iff_ne]; omega) (by rw [beq_eq_false_iff_ne]; omega) (by rw [beq_eq_false_iff_ne]; omega) (by rw [beq_eq_false_iff_ne]; omega) (by rw [beq_eq_false_iff_ne]; omega) (by rw [beq_eq_false_iff_ne]; omega) style flag text anchor tag at_ code w
end Go.Proofs.Ytmbbmibkjnlkkaa
