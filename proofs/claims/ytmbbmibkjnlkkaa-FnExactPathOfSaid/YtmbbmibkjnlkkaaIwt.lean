/- impl's walk over a stream takes an event. -/
import Derived.Test.YtmbbmibkjnlkkaaZpk
namespace Go.Proofs.Ytmbbmibkjnlkkaa
open Go.ChangeShapes Go.WideShapes Go.ChangeAt Go.RowKit
set_option maxHeartbeats 4000000 in
theorem take1_y (b : Nat) (ar : List Int) (style : Int) (flag : Bool) (text anchor tag : ByteArray) (at_ code : Int) (w : World)  (hW : Wk b 0 ar w) :
    Calls Try.prog 52 #[.pointer (some ⟨b, 0, none⟩), .agg #[.int .i64 1, .int .i64 style, .bool flag, .string text, .string anchor, .string tag, .int .i64 at_, .int .i64 code]] w fun e w' => e = .returned (.bool true) ∧ Wk b 1 (ar) w' ∧ Below b w w' := by
  have HAL : Hid (Below b w (w.alloc (.cells #[.int .i64 1, .int .i64 style, .bool flag, .string text, .string anchor, .string tag, .int .i64 at_, .int .i64 code] 38))) := ((Below.refl _ w).alloc (Nat.le_refl _) _).mono (Nat.le_of_lt hW.lt)
  have cT := turn_yes b 0 1 ar _ (hW.stays ((Below.refl w.heap.size w).alloc (Nat.le_refl _) (.cells #[.int .i64 1, .int .i64 style, .bool flag, .string text, .string anchor, .string tag, .int .i64 at_, .int .i64 code] 38)))
  clear hW
  go_enter Try.func52, Try.ntmps52
  go_wp2_with fail
  refine cT.mono ?_
  rintro e w1 ⟨rfl, hw1, hb1⟩
  clear cT
  go_wp2_with fail
  go_ret
  exact ⟨rfl, hw1, HAL.out.trans hb1⟩
set_option maxHeartbeats 4000000 in
theorem take1_n (b : Nat) (ar : List Int) (style : Int) (flag : Bool) (text anchor tag : ByteArray) (at_ code : Int) (w : World) (c : Int) (hc : c ≠ 0) (hW : Wk b c ar w) :
    Calls Try.prog 52 #[.pointer (some ⟨b, 0, none⟩), .agg #[.int .i64 1, .int .i64 style, .bool flag, .string text, .string anchor, .string tag, .int .i64 at_, .int .i64 code]] w fun e w' => e = .returned (.bool false) ∧ Below b w w' := by
  have HAL : Hid (Below b w (w.alloc (.cells #[.int .i64 1, .int .i64 style, .bool flag, .string text, .string anchor, .string tag, .int .i64 at_, .int .i64 code] 38))) := ((Below.refl _ w).alloc (Nat.le_refl _) _).mono (Nat.le_of_lt hW.lt)
  have cT := turn_no b c 0 1 ar _ (hW.stays ((Below.refl w.heap.size w).alloc (Nat.le_refl _) (.cells #[.int .i64 1, .int .i64 style, .bool flag, .string text, .string anchor, .string tag, .int .i64 at_, .int .i64 code] 38))) hc
  clear hW
  go_enter Try.func52, Try.ntmps52
  go_wp2_with fail
  refine cT.mono ?_
  rintro e w1 ⟨rfl, hb1⟩
  clear cT
  go_wp2_with fail
  go_ret
  exact ⟨rfl, HAL.out.trans hb1⟩
set_option maxHeartbeats 4000000 in
theorem take2_y (b : Nat) (ar : List Int) (style : Int) (flag : Bool) (text anchor tag : ByteArray) (at_ code : Int) (w : World)  (hW : Wk b 1 ar w) :
    Calls Try.prog 52 #[.pointer (some ⟨b, 0, none⟩), .agg #[.int .i64 2, .int .i64 style, .bool flag, .string text, .string anchor, .string tag, .int .i64 at_, .int .i64 code]] w fun e w' => e = .returned (.bool true) ∧ Wk b 2 (ar) w' ∧ Below b w w' := by
  have HAL : Hid (Below b w (w.alloc (.cells #[.int .i64 2, .int .i64 style, .bool flag, .string text, .string anchor, .string tag, .int .i64 at_, .int .i64 code] 38))) := ((Below.refl _ w).alloc (Nat.le_refl _) _).mono (Nat.le_of_lt hW.lt)
  have cT := turn_yes b 1 2 ar _ (hW.stays ((Below.refl w.heap.size w).alloc (Nat.le_refl _) (.cells #[.int .i64 2, .int .i64 style, .bool flag, .string text, .string anchor, .string tag, .int .i64 at_, .int .i64 code] 38)))
  clear hW
  go_enter Try.func52, Try.ntmps52
  go_wp2_with fail
  refine cT.mono ?_
  rintro e w1 ⟨rfl, hw1, hb1⟩
  clear cT
  go_wp2_with fail
  go_ret
  exact ⟨rfl, hw1, HAL.out.trans hb1⟩
set_option maxHeartbeats 4000000 in
theorem take2_n (b : Nat) (ar : List Int) (style : Int) (flag : Bool) (text anchor tag : ByteArray) (at_ code : Int) (w : World) (c : Int) (hc : c ≠ 1) (hW : Wk b c ar w) :
    Calls Try.prog 52 #[.pointer (some ⟨b, 0, none⟩), .agg #[.int .i64 2, .int .i64 style, .bool flag, .string text, .string anchor, .string tag, .int .i64 at_, .int .i64 code]] w fun e w' => e = .returned (.bool false) ∧ Below b w w' := by
  have HAL : Hid (Below b w (w.alloc (.cells #[.int .i64 2, .int .i64 style, .bool flag, .string text, .string anchor, .string tag, .int .i64 at_, .int .i64 code] 38))) := ((Below.refl _ w).alloc (Nat.le_refl _) _).mono (Nat.le_of_lt hW.lt)
  have cT := turn_no b c 1 2 ar _ (hW.stays ((Below.refl w.heap.size w).alloc (Nat.le_refl _) (.cells #[.int .i64 2, .int .i64 style, .bool flag, .string text, .string anchor, .string tag, .int .i64 at_, .int .i64 code] 38))) hc
  clear hW
  go_enter Try.func52, Try.ntmps52
  go_wp2_with fail
  refine cT.mono ?_
  rintro e w1 ⟨rfl, hb1⟩
  clear cT
  go_wp2_with fail
  go_ret
  exact ⟨rfl, HAL.out.trans hb1⟩
set_option maxHeartbeats 4000000 in
theorem take8_y (b : Nat) (ar : List Int) (style : Int) (flag : Bool) (text anchor tag : ByteArray) (at_ code : Int) (w : World)  (hW : Wk b 3 ar w) :
    Calls Try.prog 52 #[.pointer (some ⟨b, 0, none⟩), .agg #[.int .i64 8, .int .i64 style, .bool flag, .string text, .string anchor, .string tag, .int .i64 at_, .int .i64 code]] w fun e w' => e = .returned (.bool true) ∧ Wk b 1 (ar) w' ∧ Below b w w' := by
  have HAL : Hid (Below b w (w.alloc (.cells #[.int .i64 8, .int .i64 style, .bool flag, .string text, .string anchor, .string tag, .int .i64 at_, .int .i64 code] 38))) := ((Below.refl _ w).alloc (Nat.le_refl _) _).mono (Nat.le_of_lt hW.lt)
  have cT := turn_yes b 3 1 ar _ (hW.stays ((Below.refl w.heap.size w).alloc (Nat.le_refl _) (.cells #[.int .i64 8, .int .i64 style, .bool flag, .string text, .string anchor, .string tag, .int .i64 at_, .int .i64 code] 38)))
  clear hW
  go_enter Try.func52, Try.ntmps52
  go_wp2_with fail
  refine cT.mono ?_
  rintro e w1 ⟨rfl, hw1, hb1⟩
  clear cT
  go_wp2_with fail
  go_ret
  exact ⟨rfl, hw1, HAL.out.trans hb1⟩
set_option maxHeartbeats 4000000 in
theorem take8_n (b : Nat) (ar : List Int) (style : Int) (flag : Bool) (text anchor tag : ByteArray) (at_ code : Int) (w : World) (c : Int) (hc : c ≠ 3) (hW : Wk b c ar w) :
    Calls Try.prog 52 #[.pointer (some ⟨b, 0, none⟩), .agg #[.int .i64 8, .int .i64 style, .bool flag, .string text, .string anchor, .string tag, .int .i64 at_, .int .i64 code]] w fun e w' => e = .returned (.bool false) ∧ Below b w w' := by
  have HAL : Hid (Below b w (w.alloc (.cells #[.int .i64 8, .int .i64 style, .bool flag, .string text, .string anchor, .string tag, .int .i64 at_, .int .i64 code] 38))) := ((Below.refl _ w).alloc (Nat.le_refl _) _).mono (Nat.le_of_lt hW.lt)
  have cT := turn_no b c 3 1 ar _ (hW.stays ((Below.refl w.heap.size w).alloc (Nat.le_refl _) (.cells #[.int .i64 8, .int .i64 style, .bool flag, .string text, .string anchor, .string tag, .int .i64 at_, .int .i64 code] 38))) hc
  clear hW
  go_enter Try.func52, Try.ntmps52
  go_wp2_with fail
  refine cT.mono ?_
  rintro e w1 ⟨rfl, hb1⟩
  clear cT
  go_wp2_with fail
  go_ret
  exact ⟨rfl, HAL.out.trans hb1⟩
set_option maxHeartbeats 4000000 in
theorem take9_y (b : Nat) (ar : List Int) (style : Int) (flag : Bool) (text anchor tag : ByteArray) (at_ code : Int) (w : World)  (hW : Wk b 1 ar w) :
    Calls Try.prog 52 #[.pointer (some ⟨b, 0, none⟩), .agg #[.int .i64 9, .int .i64 style, .bool flag, .string text, .string anchor, .string tag, .int .i64 at_, .int .i64 code]] w fun e w' => e = .returned (.bool true) ∧ Wk b 7 (ar) w' ∧ Below b w w' := by
  have HAL : Hid (Below b w (w.alloc (.cells #[.int .i64 9, .int .i64 style, .bool flag, .string text, .string anchor, .string tag, .int .i64 at_, .int .i64 code] 38))) := ((Below.refl _ w).alloc (Nat.le_refl _) _).mono (Nat.le_of_lt hW.lt)
  have cT := turn_yes b 1 7 ar _ (hW.stays ((Below.refl w.heap.size w).alloc (Nat.le_refl _) (.cells #[.int .i64 9, .int .i64 style, .bool flag, .string text, .string anchor, .string tag, .int .i64 at_, .int .i64 code] 38)))
  clear hW
  go_enter Try.func52, Try.ntmps52
  go_wp2_with fail
  refine cT.mono ?_
  rintro e w1 ⟨rfl, hw1, hb1⟩
  clear cT
  go_wp2_with fail
  go_ret
  exact ⟨rfl, hw1, HAL.out.trans hb1⟩
set_option maxHeartbeats 4000000 in
theorem take9_n (b : Nat) (ar : List Int) (style : Int) (flag : Bool) (text anchor tag : ByteArray) (at_ code : Int) (w : World) (c : Int) (hc : c ≠ 1) (hW : Wk b c ar w) :
    Calls Try.prog 52 #[.pointer (some ⟨b, 0, none⟩), .agg #[.int .i64 9, .int .i64 style, .bool flag, .string text, .string anchor, .string tag, .int .i64 at_, .int .i64 code]] w fun e w' => e = .returned (.bool false) ∧ Below b w w' := by
  have HAL : Hid (Below b w (w.alloc (.cells #[.int .i64 9, .int .i64 style, .bool flag, .string text, .string anchor, .string tag, .int .i64 at_, .int .i64 code] 38))) := ((Below.refl _ w).alloc (Nat.le_refl _) _).mono (Nat.le_of_lt hW.lt)
  have cT := turn_no b c 1 7 ar _ (hW.stays ((Below.refl w.heap.size w).alloc (Nat.le_refl _) (.cells #[.int .i64 9, .int .i64 style, .bool flag, .string text, .string anchor, .string tag, .int .i64 at_, .int .i64 code] 38))) hc
  clear hW
  go_enter Try.func52, Try.ntmps52
  go_wp2_with fail
  refine cT.mono ?_
  rintro e w1 ⟨rfl, hb1⟩
  clear cT
  go_wp2_with fail
  go_ret
  exact ⟨rfl, HAL.out.trans hb1⟩
set_option maxHeartbeats 4000000 in
theorem take3_y (b : Nat) (ar : List Int) (style : Int) (flag : Bool) (text anchor tag : ByteArray) (at_ code : Int) (w : World) (c d : Int) (hd : nd c = some d) (hl : ar.length ≤ 100000000) (hW : Wk b c ar w) :
    Calls Try.prog 52 #[.pointer (some ⟨b, 0, none⟩), .agg #[.int .i64 3, .int .i64 style, .bool flag, .string text, .string anchor, .string tag, .int .i64 at_, .int .i64 code]] w fun e w' => e = .returned (.bool true) ∧ Wk b 4 (d :: ar) w' ∧ Below b w w' := by
  have HAL : Hid (Below b w (w.alloc (.cells #[.int .i64 3, .int .i64 style, .bool flag, .string text, .string anchor, .string tag, .int .i64 at_, .int .i64 code] 38))) := ((Below.refl _ w).alloc (Nat.le_refl _) _).mono (Nat.le_of_lt hW.lt)
  have cT := node_yes b c d ar _ (hW.stays ((Below.refl w.heap.size w).alloc (Nat.le_refl _) (.cells #[.int .i64 3, .int .i64 style, .bool flag, .string text, .string anchor, .string tag, .int .i64 at_, .int .i64 code] 38))) hd
  clear hW
  go_enter Try.func52, Try.ntmps52
  go_wp2_with fail
  refine cT.mono ?_
  rintro e w1 ⟨rfl, hw1, hb1⟩
  clear cT
  have cE := enter_any b d 4 ar _ hw1 hl
  have HB1 : Hid (Below b w w1) := HAL.out.trans hb1
  clear hw1 hb1
  go_wp2_with fail
  refine cE.mono ?_
  rintro e w2 ⟨rfl, hw2, hb2⟩
  clear cE
  go_wp2_with fail
  go_ret
  exact ⟨rfl, hw2, HB1.out.trans hb2⟩
set_option maxHeartbeats 4000000 in
theorem take3_n (b : Nat) (ar : List Int) (style : Int) (flag : Bool) (text anchor tag : ByteArray) (at_ code : Int) (w : World) (c : Int) (hd : nd c = none) (hW : Wk b c ar w) :
    Calls Try.prog 52 #[.pointer (some ⟨b, 0, none⟩), .agg #[.int .i64 3, .int .i64 style, .bool flag, .string text, .string anchor, .string tag, .int .i64 at_, .int .i64 code]] w fun e w' => e = .returned (.bool false) ∧ Below b w w' := by
  have HAL : Hid (Below b w (w.alloc (.cells #[.int .i64 3, .int .i64 style, .bool flag, .string text, .string anchor, .string tag, .int .i64 at_, .int .i64 code] 38))) := ((Below.refl _ w).alloc (Nat.le_refl _) _).mono (Nat.le_of_lt hW.lt)
  have cT := node_no b c ar _ (hW.stays ((Below.refl w.heap.size w).alloc (Nat.le_refl _) (.cells #[.int .i64 3, .int .i64 style, .bool flag, .string text, .string anchor, .string tag, .int .i64 at_, .int .i64 code] 38))) hd
  clear hW
  go_enter Try.func52, Try.ntmps52
  go_wp2_with fail
  refine cT.mono ?_
  rintro e w1 ⟨rfl, hb1⟩
  clear cT
  go_wp2_with fail
  go_ret
  exact ⟨rfl, HAL.out.trans hb1⟩
set_option maxHeartbeats 4000000 in
theorem take4_y (b : Nat) (ar : List Int) (style : Int) (flag : Bool) (text anchor tag : ByteArray) (at_ code : Int) (w : World) (c d : Int) (hd : nd c = some d) (hl : ar.length ≤ 100000000) (hW : Wk b c ar w) :
    Calls Try.prog 52 #[.pointer (some ⟨b, 0, none⟩), .agg #[.int .i64 4, .int .i64 style, .bool flag, .string text, .string anchor, .string tag, .int .i64 at_, .int .i64 code]] w fun e w' => e = .returned (.bool true) ∧ Wk b 5 (d :: ar) w' ∧ Below b w w' := by
  have HAL : Hid (Below b w (w.alloc (.cells #[.int .i64 4, .int .i64 style, .bool flag, .string text, .string anchor, .string tag, .int .i64 at_, .int .i64 code] 38))) := ((Below.refl _ w).alloc (Nat.le_refl _) _).mono (Nat.le_of_lt hW.lt)
  have cT := node_yes b c d ar _ (hW.stays ((Below.refl w.heap.size w).alloc (Nat.le_refl _) (.cells #[.int .i64 4, .int .i64 style, .bool flag, .string text, .string anchor, .string tag, .int .i64 at_, .int .i64 code] 38))) hd
  clear hW
  go_enter Try.func52, Try.ntmps52
  go_wp2_with fail
  refine cT.mono ?_
  rintro e w1 ⟨rfl, hw1, hb1⟩
  clear cT
  have cE := enter_any b d 5 ar _ hw1 hl
  have HB1 : Hid (Below b w w1) := HAL.out.trans hb1
  clear hw1 hb1
  go_wp2_with fail
  refine cE.mono ?_
  rintro e w2 ⟨rfl, hw2, hb2⟩
  clear cE
  go_wp2_with fail
  go_ret
  exact ⟨rfl, hw2, HB1.out.trans hb2⟩
set_option maxHeartbeats 4000000 in
theorem take4_n (b : Nat) (ar : List Int) (style : Int) (flag : Bool) (text anchor tag : ByteArray) (at_ code : Int) (w : World) (c : Int) (hd : nd c = none) (hW : Wk b c ar w) :
    Calls Try.prog 52 #[.pointer (some ⟨b, 0, none⟩), .agg #[.int .i64 4, .int .i64 style, .bool flag, .string text, .string anchor, .string tag, .int .i64 at_, .int .i64 code]] w fun e w' => e = .returned (.bool false) ∧ Below b w w' := by
  have HAL : Hid (Below b w (w.alloc (.cells #[.int .i64 4, .int .i64 style, .bool flag, .string text, .string anchor, .string tag, .int .i64 at_, .int .i64 code] 38))) := ((Below.refl _ w).alloc (Nat.le_refl _) _).mono (Nat.le_of_lt hW.lt)
  have cT := node_no b c ar _ (hW.stays ((Below.refl w.heap.size w).alloc (Nat.le_refl _) (.cells #[.int .i64 4, .int .i64 style, .bool flag, .string text, .string anchor, .string tag, .int .i64 at_, .int .i64 code] 38))) hd
  clear hW
  go_enter Try.func52, Try.ntmps52
  go_wp2_with fail
  refine cT.mono ?_
  rintro e w1 ⟨rfl, hb1⟩
  clear cT
  go_wp2_with fail
  go_ret
  exact ⟨rfl, HAL.out.trans hb1⟩
set_option maxHeartbeats 4000000 in
theorem take5_y (b : Nat) (ar : List Int) (style : Int) (flag : Bool) (text anchor tag : ByteArray) (at_ code : Int) (w : World) (c d : Int) (hd : nd c = some d) (hW : Wk b c ar w) :
    Calls Try.prog 52 #[.pointer (some ⟨b, 0, none⟩), .agg #[.int .i64 5, .int .i64 style, .bool flag, .string text, .string anchor, .string tag, .int .i64 at_, .int .i64 code]] w fun e w' => e = .returned (.bool true) ∧ Wk b d (ar) w' ∧ Below b w w' := by
  have HAL : Hid (Below b w (w.alloc (.cells #[.int .i64 5, .int .i64 style, .bool flag, .string text, .string anchor, .string tag, .int .i64 at_, .int .i64 code] 38))) := ((Below.refl _ w).alloc (Nat.le_refl _) _).mono (Nat.le_of_lt hW.lt)
  have cT := node_yes b c d ar _ (hW.stays ((Below.refl w.heap.size w).alloc (Nat.le_refl _) (.cells #[.int .i64 5, .int .i64 style, .bool flag, .string text, .string anchor, .string tag, .int .i64 at_, .int .i64 code] 38))) hd
  clear hW
  go_enter Try.func52, Try.ntmps52
  go_wp2_with fail
  refine cT.mono ?_
  rintro e w1 ⟨rfl, hw1, hb1⟩
  clear cT
  go_wp2_with fail
  go_ret
  exact ⟨rfl, hw1, HAL.out.trans hb1⟩
set_option maxHeartbeats 4000000 in
theorem take5_n (b : Nat) (ar : List Int) (style : Int) (flag : Bool) (text anchor tag : ByteArray) (at_ code : Int) (w : World) (c : Int) (hd : nd c = none) (hW : Wk b c ar w) :
    Calls Try.prog 52 #[.pointer (some ⟨b, 0, none⟩), .agg #[.int .i64 5, .int .i64 style, .bool flag, .string text, .string anchor, .string tag, .int .i64 at_, .int .i64 code]] w fun e w' => e = .returned (.bool false) ∧ Below b w w' := by
  have HAL : Hid (Below b w (w.alloc (.cells #[.int .i64 5, .int .i64 style, .bool flag, .string text, .string anchor, .string tag, .int .i64 at_, .int .i64 code] 38))) := ((Below.refl _ w).alloc (Nat.le_refl _) _).mono (Nat.le_of_lt hW.lt)
  have cT := node_no b c ar _ (hW.stays ((Below.refl w.heap.size w).alloc (Nat.le_refl _) (.cells #[.int .i64 5, .int .i64 style, .bool flag, .string text, .string anchor, .string tag, .int .i64 at_, .int .i64 code] 38))) hd
  clear hW
  go_enter Try.func52, Try.ntmps52
  go_wp2_with fail
  refine cT.mono ?_
  rintro e w1 ⟨rfl, hb1⟩
  clear cT
  go_wp2_with fail
  go_ret
  exact ⟨rfl, HAL.out.trans hb1⟩
set_option maxHeartbeats 4000000 in
theorem take6_y (b : Nat) (ar : List Int) (style : Int) (flag : Bool) (text anchor tag : ByteArray) (at_ code : Int) (w : World) (c d : Int) (hd : nd c = some d) (hW : Wk b c ar w) :
    Calls Try.prog 52 #[.pointer (some ⟨b, 0, none⟩), .agg #[.int .i64 6, .int .i64 style, .bool flag, .string text, .string anchor, .string tag, .int .i64 at_, .int .i64 code]] w fun e w' => e = .returned (.bool true) ∧ Wk b d (ar) w' ∧ Below b w w' := by
  have HAL : Hid (Below b w (w.alloc (.cells #[.int .i64 6, .int .i64 style, .bool flag, .string text, .string anchor, .string tag, .int .i64 at_, .int .i64 code] 38))) := ((Below.refl _ w).alloc (Nat.le_refl _) _).mono (Nat.le_of_lt hW.lt)
  have cT := node_yes b c d ar _ (hW.stays ((Below.refl w.heap.size w).alloc (Nat.le_refl _) (.cells #[.int .i64 6, .int .i64 style, .bool flag, .string text, .string anchor, .string tag, .int .i64 at_, .int .i64 code] 38))) hd
  clear hW
  go_enter Try.func52, Try.ntmps52
  go_wp2_with fail
  refine cT.mono ?_
  rintro e w1 ⟨rfl, hw1, hb1⟩
  clear cT
  go_wp2_with fail
  go_ret
  exact ⟨rfl, hw1, HAL.out.trans hb1⟩
set_option maxHeartbeats 4000000 in
theorem take6_n (b : Nat) (ar : List Int) (style : Int) (flag : Bool) (text anchor tag : ByteArray) (at_ code : Int) (w : World) (c : Int) (hd : nd c = none) (hW : Wk b c ar w) :
    Calls Try.prog 52 #[.pointer (some ⟨b, 0, none⟩), .agg #[.int .i64 6, .int .i64 style, .bool flag, .string text, .string anchor, .string tag, .int .i64 at_, .int .i64 code]] w fun e w' => e = .returned (.bool false) ∧ Below b w w' := by
  have HAL : Hid (Below b w (w.alloc (.cells #[.int .i64 6, .int .i64 style, .bool flag, .string text, .string anchor, .string tag, .int .i64 at_, .int .i64 code] 38))) := ((Below.refl _ w).alloc (Nat.le_refl _) _).mono (Nat.le_of_lt hW.lt)
  have cT := node_no b c ar _ (hW.stays ((Below.refl w.heap.size w).alloc (Nat.le_refl _) (.cells #[.int .i64 6, .int .i64 style, .bool flag, .string text, .string anchor, .string tag, .int .i64 at_, .int .i64 code] 38))) hd
  clear hW
  go_enter Try.func52, Try.ntmps52
  go_wp2_with fail
  refine cT.mono ?_
  rintro e w1 ⟨rfl, hb1⟩
  clear cT
  go_wp2_with fail
  go_ret
  exact ⟨rfl, HAL.out.trans hb1⟩
set_option maxHeartbeats 4000000 in
theorem take7_y (b : Nat) (ar : List Int) (style : Int) (flag : Bool) (text anchor tag : ByteArray) (at_ code : Int) (w : World) (c x : Int) (hc : c = 4 ∨ c = 5) (hl : ar.length ≤ 100000000) (hW : Wk b c (x :: ar) w) :
    Calls Try.prog 52 #[.pointer (some ⟨b, 0, none⟩), .agg #[.int .i64 7, .int .i64 style, .bool flag, .string text, .string anchor, .string tag, .int .i64 at_, .int .i64 code]] w fun e w' => e = .returned (.bool true) ∧ Wk b x (ar) w' ∧ Below b w w' := by
  have HAL : Hid (Below b w (w.alloc (.cells #[.int .i64 7, .int .i64 style, .bool flag, .string text, .string anchor, .string tag, .int .i64 at_, .int .i64 code] 38))) := ((Below.refl _ w).alloc (Nat.le_refl _) _).mono (Nat.le_of_lt hW.lt)
  have cT := leave_yes b c x ar _ (hW.stays ((Below.refl w.heap.size w).alloc (Nat.le_refl _) (.cells #[.int .i64 7, .int .i64 style, .bool flag, .string text, .string anchor, .string tag, .int .i64 at_, .int .i64 code] 38))) hc hl
  clear hW
  go_enter Try.func52, Try.ntmps52
  go_wp2_with fail
  refine cT.mono ?_
  rintro e w1 ⟨rfl, hw1, hb1⟩
  clear cT
  go_wp2_with fail
  go_ret
  exact ⟨rfl, hw1, HAL.out.trans hb1⟩
set_option maxHeartbeats 4000000 in
theorem take7_n (b : Nat) (ar : List Int) (style : Int) (flag : Bool) (text anchor tag : ByteArray) (at_ code : Int) (w : World) (c : Int) (h4 : c ≠ 4) (h5 : c ≠ 5) (hW : Wk b c ar w) :
    Calls Try.prog 52 #[.pointer (some ⟨b, 0, none⟩), .agg #[.int .i64 7, .int .i64 style, .bool flag, .string text, .string anchor, .string tag, .int .i64 at_, .int .i64 code]] w fun e w' => e = .returned (.bool false) ∧ Below b w w' := by
  have HAL : Hid (Below b w (w.alloc (.cells #[.int .i64 7, .int .i64 style, .bool flag, .string text, .string anchor, .string tag, .int .i64 at_, .int .i64 code] 38))) := ((Below.refl _ w).alloc (Nat.le_refl _) _).mono (Nat.le_of_lt hW.lt)
  have cT := leave_no b c ar _ (hW.stays ((Below.refl w.heap.size w).alloc (Nat.le_refl _) (.cells #[.int .i64 7, .int .i64 style, .bool flag, .string text, .string anchor, .string tag, .int .i64 at_, .int .i64 code] 38))) h4 h5
  clear hW
  go_enter Try.func52, Try.ntmps52
  go_wp2_with fail
  refine cT.mono ?_
  rintro e w1 ⟨rfl, hb1⟩
  clear cT
  go_wp2_with fail
  go_ret
  exact ⟨rfl, HAL.out.trans hb1⟩
set_option maxHeartbeats 4000000 in
theorem take10_y (b : Nat) (ar : List Int) (style : Int) (flag : Bool) (text anchor tag : ByteArray) (at_ code : Int) (w : World) (c : Int) (h0 : c ≠ 0) (h7 : c ≠ 7) (hW : Wk b c ar w) :
    Calls Try.prog 52 #[.pointer (some ⟨b, 0, none⟩), .agg #[.int .i64 10, .int .i64 style, .bool flag, .string text, .string anchor, .string tag, .int .i64 at_, .int .i64 code]] w fun e w' => e = .returned (.bool true) ∧ Wk b 7 (ar) w' ∧ Below b w w' := by
  have HAL : Hid (Below b w (w.alloc (.cells #[.int .i64 10, .int .i64 style, .bool flag, .string text, .string anchor, .string tag, .int .i64 at_, .int .i64 code] 38))) := ((Below.refl _ w).alloc (Nat.le_refl _) _).mono (Nat.le_of_lt hW.lt)
  have cT := fail_yes b c ar _ (hW.stays ((Below.refl w.heap.size w).alloc (Nat.le_refl _) (.cells #[.int .i64 10, .int .i64 style, .bool flag, .string text, .string anchor, .string tag, .int .i64 at_, .int .i64 code] 38))) h0 h7
  clear hW
  go_enter Try.func52, Try.ntmps52
  go_wp2_with fail
  refine cT.mono ?_
  rintro e w1 ⟨rfl, hw1, hb1⟩
  clear cT
  go_wp2_with fail
  go_ret
  exact ⟨rfl, hw1, HAL.out.trans hb1⟩
set_option maxHeartbeats 4000000 in
theorem take10_n (b : Nat) (ar : List Int) (style : Int) (flag : Bool) (text anchor tag : ByteArray) (at_ code : Int) (w : World) (c : Int) (hc : c = 0 ∨ c = 7) (hW : Wk b c ar w) :
    Calls Try.prog 52 #[.pointer (some ⟨b, 0, none⟩), .agg #[.int .i64 10, .int .i64 style, .bool flag, .string text, .string anchor, .string tag, .int .i64 at_, .int .i64 code]] w fun e w' => e = .returned (.bool false) ∧ Below b w w' := by
  have HAL : Hid (Below b w (w.alloc (.cells #[.int .i64 10, .int .i64 style, .bool flag, .string text, .string anchor, .string tag, .int .i64 at_, .int .i64 code] 38))) := ((Below.refl _ w).alloc (Nat.le_refl _) _).mono (Nat.le_of_lt hW.lt)
  have cT := fail_no b c ar _ (hW.stays ((Below.refl w.heap.size w).alloc (Nat.le_refl _) (.cells #[.int .i64 10, .int .i64 style, .bool flag, .string text, .string anchor, .string tag, .int .i64 at_, .int .i64 code] 38))) hc
  clear hW
  go_enter Try.func52, Try.ntmps52
  go_wp2_with fail
  refine cT.mono ?_
  rintro e w1 ⟨rfl, hb1⟩
  clear cT
  go_wp2_with fail
  go_ret
  exact ⟨rfl, HAL.out.trans hb1⟩
/-- What take answers, and where the walk is then. -/
def TakeQ (b : Nat) (w : World) (o : Option (Int × List Int)) (e : Ending) (w' : World) : Prop :=
  Below b w w' ∧ match o with
    | none => e = .returned (.bool false)
    | some p => e = .returned (.bool true) ∧ Wk b p.1 p.2 w'
theorem TakeQ.yes {b : Nat} {w : World} {c : Int} {ar : List Int} {e : Ending} {w' : World} (h : e = .returned (.bool true) ∧ Wk b c ar w' ∧ Below b w w') : TakeQ b w (some (c, ar)) e w' := ⟨h.2.2, h.1, h.2.1⟩
theorem TakeQ.no {b : Nat} {w : World} {e : Ending} {w' : World} (h : e = .returned (.bool false) ∧ Below b w w') : TakeQ b w none e w' := ⟨h.2, h.1⟩
theorem take_any (b : Nat) (c : Int) (ar : List Int) (e : Ev) (w : World) (hW : Wk b c ar w) (h1 : 1 ≤ e.kind) (h10 : e.kind ≤ 10) (hx : c = 4 ∨ c = 5 → ∃ x t, ar = x :: t) (hl : ar.length ≤ 100000000) :
    Calls Try.prog 52 #[.pointer (some ⟨b, 0, none⟩), .agg e.row] w (TakeQ b w (tk c ar e.kind)) := by
  obtain ⟨kind, style, flag, text, anchor, tag, at_, code⟩ := e
  replace h1 : 1 ≤ kind := h1
  replace h10 : kind ≤ 10 := h10
  have hk : kind = 1 ∨ kind = 2 ∨ kind = 3 ∨ kind = 4 ∨ kind = 5 ∨ kind = 6 ∨ kind = 7 ∨ kind = 8 ∨ kind = 9 ∨ kind = 10 := by omega
  clear h1 h10
  rcases hk with rfl | rfl | rfl | rfl | rfl | rfl | rfl | rfl | rfl | rfl
  · show Calls _ _ _ _ (TakeQ b w (if c = 0 then some (1, ar) else none))
    by_cases hc : c = 0
    · subst hc
      rw [if_pos rfl]
      exact (take1_y b ar style flag text anchor tag at_ code w hW).mono fun _ _ h => TakeQ.yes h
    · rw [if_neg hc]
      exact (take1_n b ar style flag text anchor tag at_ code w c hc hW).mono fun _ _ h => TakeQ.no h
  · show Calls _ _ _ _ (TakeQ b w (if c = 1 then some (2, ar) else none))
    by_cases hc : c = 1
    · subst hc
      rw [if_pos rfl]
      exact (take2_y b ar style flag text anchor tag at_ code w hW).mono fun _ _ h => TakeQ.yes h
    · rw [if_neg hc]
      exact (take2_n b ar style flag text anchor tag at_ code w c hc hW).mono fun _ _ h => TakeQ.no h
  · show Calls _ _ _ _ (TakeQ b w ((nd c).map fun d => (4, d :: ar)))
    cases hd : nd c with
    | some d => exact (take3_y b ar style flag text anchor tag at_ code w c d hd hl hW).mono fun _ _ h => TakeQ.yes h
    | none => exact (take3_n b ar style flag text anchor tag at_ code w c hd hW).mono fun _ _ h => TakeQ.no h
  · show Calls _ _ _ _ (TakeQ b w ((nd c).map fun d => (5, d :: ar)))
    cases hd : nd c with
    | some d => exact (take4_y b ar style flag text anchor tag at_ code w c d hd hl hW).mono fun _ _ h => TakeQ.yes h
    | none => exact (take4_n b ar style flag text anchor tag at_ code w c hd hW).mono fun _ _ h => TakeQ.no h
  · show Calls _ _ _ _ (TakeQ b w ((nd c).map fun d => (d, ar)))
    cases hd : nd c with
    | some d => exact (take5_y b ar style flag text anchor tag at_ code w c d hd hW).mono fun _ _ h => TakeQ.yes h
    | none => exact (take5_n b ar style flag text anchor tag at_ code w c hd hW).mono fun _ _ h => TakeQ.no h
  · show Calls _ _ _ _ (TakeQ b w ((nd c).map fun d => (d, ar)))
    cases hd : nd c with
    | some d => exact (take6_y b ar style flag text anchor tag at_ code w c d hd hW).mono fun _ _ h => TakeQ.yes h
    | none => exact (take6_n b ar style flag text anchor tag at_ code w c hd hW).mono fun _ _ h => TakeQ.no h
  · show Calls _ _ _ _ (TakeQ b w (if c = 4 ∨ c = 5 then some (ar.headD 0, ar.tail) else none))
    by_cases hc : c = 4 ∨ c = 5
    · rw [if_pos hc]
      obtain ⟨x, t, rfl⟩ := hx hc
      exact (take7_y b t style flag text anchor tag at_ code w c x hc (by simp at hl; omega) hW).mono fun _ _ h => TakeQ.yes h
    · rw [if_neg hc]
      exact (take7_n b ar style flag text anchor tag at_ code w c (by omega) (by omega) hW).mono fun _ _ h => TakeQ.no h
  · show Calls _ _ _ _ (TakeQ b w (if c = 3 then some (1, ar) else none))
    by_cases hc : c = 3
    · subst hc
      rw [if_pos rfl]
      exact (take8_y b ar style flag text anchor tag at_ code w hW).mono fun _ _ h => TakeQ.yes h
    · rw [if_neg hc]
      exact (take8_n b ar style flag text anchor tag at_ code w c hc hW).mono fun _ _ h => TakeQ.no h
  · show Calls _ _ _ _ (TakeQ b w (if c = 1 then some (7, ar) else none))
    by_cases hc : c = 1
    · subst hc
      rw [if_pos rfl]
      exact (take9_y b ar style flag text anchor tag at_ code w hW).mono fun _ _ h => TakeQ.yes h
    · rw [if_neg hc]
      exact (take9_n b ar style flag text anchor tag at_ code w c hc hW).mono fun _ _ h => TakeQ.no h
  · show Calls _ _ _ _ (TakeQ b w (if c ≠ 0 ∧ c ≠ 7 then some (7, ar) else none))
    by_cases hc : c ≠ 0 ∧ c ≠ 7
    · rw [if_pos hc]
      exact (take10_y b ar style flag text anchor tag at_ code w c hc.1 hc.2 hW).mono fun _ _ h => TakeQ.yes h
    · rw [if_neg hc]
      exact (take10_n b ar style flag text anchor tag at_ code w c (by omega) hW).mono fun _ _ h => TakeQ.no h
end Go.Proofs.Ytmbbmibkjnlkkaa
