/- The contract of spec.EventText. -/
import Derived.Test.YtleajpkdikcfpalDoorSev
import Derived.Test.YtleajpkdikcfpalDoorSpp
import Derived.Test.YtleajpkdikcfpalDoorSnu
import Derived.Test.YtleajpkdikcfpalDoorSec
import Derived.Test.YtleajpkdikcfpalDoorBwr
import Derived.Test.YtleajpkdikcfpalDoorEvl
namespace Go.Proofs.YtleajpkdikcfpalDoor
open Go.ChangeShapes Go.WideShapes Go.ChangeAt Go.RowKit Go.Deep Go.BigFrame
def escS (s : ByteArray) : ByteArray := strN (escTo s s.size)
/-- The line of an event that is right. -/
def evLine (e : Ev) : ByteArray :=
  if e.kind = 1 then (⟨#[43, 83, 84, 82]⟩ : ByteArray)
  else if e.kind = 2 then (if e.flag = true then (⟨#[43, 68, 79, 67, 32, 45, 45, 45]⟩ : ByteArray) else (⟨#[43, 68, 79, 67]⟩ : ByteArray))
  else if e.kind = 3 then (if e.style = 6 then (⟨#[43, 83, 69, 81, 32, 91, 93]⟩ : ByteArray) else (⟨#[43, 83, 69, 81]⟩ : ByteArray)) ++ propsB e
  else if e.kind = 4 then (if e.style = 6 then (⟨#[43, 77, 65, 80, 32, 123, 125]⟩ : ByteArray) else (⟨#[43, 77, 65, 80]⟩ : ByteArray)) ++ propsB e
  else if e.kind = 5 then (⟨#[61, 86, 65, 76]⟩ : ByteArray) ++ propsB e ++ (⟨#[32]⟩ : ByteArray) ++ (⟨#[32, 58, 39, 34, 124, 62]⟩ : ByteArray).extract e.style.toNat (e.style.toNat + 1) ++ escS e.text
  else if e.kind = 6 then (⟨#[61, 65, 76, 73, 32, 42]⟩ : ByteArray) ++ e.text
  else if e.kind = 7 then (⟨#[45, 69, 78, 68]⟩ : ByteArray)
  else if e.kind = 8 then (if e.flag = true then (⟨#[45, 68, 79, 67, 32, 46, 46, 46]⟩ : ByteArray) else (⟨#[45, 68, 79, 67]⟩ : ByteArray))
  else if e.kind = 9 then (⟨#[45, 83, 84, 82]⟩ : ByteArray)
  else (⟨#[33, 70, 65, 85, 76, 84, 32]⟩ : ByteArray) ++ nt e.code ++ (⟨#[32]⟩ : ByteArray) ++ nt e.at_
def evText (e : Ev) : ByteArray := if evOk e = true then evLine e else ByteArray.empty
theorem nt_size (n : Int) : (nt n).size ≤ 20 := by
  unfold nt
  split
  · show 0 ≤ 20; omega
  · show (Lib.decDigits n.toNat).toArray.size ≤ 20
    simp only [List.size_toArray]
    exact Nat.le_trans (dec_len _ (by omega)) (by omega)
theorem strN_size (l : List Nat) : (strN l).size = l.length := by unfold strN; rw [strOfNums_size]; simp
theorem escS_size (s : ByteArray) : (escS s).size ≤ 2 * s.size := by unfold escS; rw [strN_size]; exact escTo_len s s.size
theorem addS (A B : ByteArray) (h : A.size + B.size ≤ 10000000) : ∀ w : World, (Op.stringOp .add A B).run Tryd.prog w = .ok (.string (A ++ B)) w := fun w => run_string_add_sum w _ _ (by omega)
set_option linter.unusedSimpArgs false in
set_option maxHeartbeats 8000000 in
theorem tx_1 (style : Int) (flag : Bool) (text anchor tag : ByteArray) (at_ code : Int) (w : World) (ht : text.size ≤ 1048576 ∧ anchor.size ≤ 1048576 ∧ tag.size ≤ 1048576)  (hok : evOk ⟨1, style, flag, text, anchor, tag, at_, code⟩ = true) :
    Calls Tryd.prog 10 #[.agg (Ev.row ⟨1, style, flag, text, anchor, tag, at_, code⟩)] w fun r w' => r = .returned (.string (evLine ⟨1, style, flag, text, anchor, tag, at_, code⟩)) ∧ Below w.heap.size w w' := by
  have cO : Hid (∀ w, Calls Tryd.prog 17 #[.agg #[.int .i64 1, .int .i64 style, .bool flag, .string text, .string anchor, .string tag, .int .i64 at_, .int .i64 code]] w fun r w' => r = .returned (.bool true) ∧ Below w.heap.size w w') := fun w => spec_eventOk ⟨1, style, flag, text, anchor, tag, at_, code⟩ w ⟨by have := ht.1; unfold mx; show text.size ≤ _; omega, by have := ht.2.1; unfold mx; show anchor.size ≤ _; omega, by have := ht.2.2; unfold mx; show tag.size ≤ _; omega⟩ true hok
  have HV : Hid (evLine ⟨1, style, flag, text, anchor, tag, at_, code⟩ = (⟨#[43, 83, 84, 82]⟩ : ByteArray)) := by
    show evLine ⟨1, style, flag, text, anchor, tag, at_, code⟩ = (⟨#[43, 83, 84, 82]⟩ : ByteArray)
    simp [evLine, evLine]
  show Calls Tryd.prog 10 #[.agg #[.int .i64 1, .int .i64 style, .bool flag, .string text, .string anchor, .string tag, .int .i64 at_, .int .i64 code]] w fun r w' => r = .returned (.string (evLine ⟨1, style, flag, text, anchor, tag, at_, code⟩)) ∧ Below w.heap.size w w'
  rw [HV.out]
  have HAL : Hid (Below w.heap.size w (w.alloc (.cells #[.int .i64 1, .int .i64 style, .bool flag, .string text, .string anchor, .string tag, .int .i64 at_, .int .i64 code] 33))) := (Below.refl _ w).alloc (Nat.le_refl _) _
  have HNEW : Hid ((w.alloc (.cells #[.int .i64 1, .int .i64 style, .bool flag, .string text, .string anchor, .string tag, .int .i64 at_, .int .i64 code] 33)).heap[w.heap.size]? = some (.cells #[.int .i64 1, .int .i64 style, .bool flag, .string text, .string anchor, .string tag, .int .i64 at_, .int .i64 code] 33 (0, 0))) := heap_alloc_new w _
  clear hok ht HV
  go_enter Tryd.func10, Tryd.ntmps10
  go_wp2_with fail
  refine (cO.out _).mono ?_
  rintro r w1 ⟨rfl, hb1⟩
  clear cO
  have HB1 : Hid (Below w.heap.size w w1) := HAL.out.trans (hb1.mono HAL.out.size)
  have hnew : w1.heap[w.heap.size]? = some (.cells #[.int .i64 1, .int .i64 style, .bool flag, .string text, .string anchor, .string tag, .int .i64 at_, .int .i64 code] 33 (0, 0)) := (hb1.block _ (by show w.heap.size < (w.heap.push _).size; simp)).trans HNEW.out
  have HNW : Hid (w1.heap[w.heap.size]? = some (.cells #[.int .i64 1, .int .i64 style, .bool flag, .string text, .string anchor, .string tag, .int .i64 at_, .int .i64 code] 33 (0, 0))) := hnew
  obtain ⟨q0, q1, q2, q3, q4, q5, q6, q7⟩ := ev_at hnew
  clear hb1 hnew HAL HNEW
  go_wp2_with fail
  go_ret
  exact ⟨rfl, HB1.out⟩
set_option linter.unusedSimpArgs false in
set_option maxHeartbeats 8000000 in
theorem tx_7 (style : Int) (flag : Bool) (text anchor tag : ByteArray) (at_ code : Int) (w : World) (ht : text.size ≤ 1048576 ∧ anchor.size ≤ 1048576 ∧ tag.size ≤ 1048576)  (hok : evOk ⟨7, style, flag, text, anchor, tag, at_, code⟩ = true) :
    Calls Tryd.prog 10 #[.agg (Ev.row ⟨7, style, flag, text, anchor, tag, at_, code⟩)] w fun r w' => r = .returned (.string (evLine ⟨7, style, flag, text, anchor, tag, at_, code⟩)) ∧ Below w.heap.size w w' := by
  have cO : Hid (∀ w, Calls Tryd.prog 17 #[.agg #[.int .i64 7, .int .i64 style, .bool flag, .string text, .string anchor, .string tag, .int .i64 at_, .int .i64 code]] w fun r w' => r = .returned (.bool true) ∧ Below w.heap.size w w') := fun w => spec_eventOk ⟨7, style, flag, text, anchor, tag, at_, code⟩ w ⟨by have := ht.1; unfold mx; show text.size ≤ _; omega, by have := ht.2.1; unfold mx; show anchor.size ≤ _; omega, by have := ht.2.2; unfold mx; show tag.size ≤ _; omega⟩ true hok
  have HV : Hid (evLine ⟨7, style, flag, text, anchor, tag, at_, code⟩ = (⟨#[45, 69, 78, 68]⟩ : ByteArray)) := by
    show evLine ⟨7, style, flag, text, anchor, tag, at_, code⟩ = (⟨#[45, 69, 78, 68]⟩ : ByteArray)
    simp [evLine, evLine]
  show Calls Tryd.prog 10 #[.agg #[.int .i64 7, .int .i64 style, .bool flag, .string text, .string anchor, .string tag, .int .i64 at_, .int .i64 code]] w fun r w' => r = .returned (.string (evLine ⟨7, style, flag, text, anchor, tag, at_, code⟩)) ∧ Below w.heap.size w w'
  rw [HV.out]
  have HAL : Hid (Below w.heap.size w (w.alloc (.cells #[.int .i64 7, .int .i64 style, .bool flag, .string text, .string anchor, .string tag, .int .i64 at_, .int .i64 code] 33))) := (Below.refl _ w).alloc (Nat.le_refl _) _
  have HNEW : Hid ((w.alloc (.cells #[.int .i64 7, .int .i64 style, .bool flag, .string text, .string anchor, .string tag, .int .i64 at_, .int .i64 code] 33)).heap[w.heap.size]? = some (.cells #[.int .i64 7, .int .i64 style, .bool flag, .string text, .string anchor, .string tag, .int .i64 at_, .int .i64 code] 33 (0, 0))) := heap_alloc_new w _
  clear hok ht HV
  go_enter Tryd.func10, Tryd.ntmps10
  go_wp2_with fail
  refine (cO.out _).mono ?_
  rintro r w1 ⟨rfl, hb1⟩
  clear cO
  have HB1 : Hid (Below w.heap.size w w1) := HAL.out.trans (hb1.mono HAL.out.size)
  have hnew : w1.heap[w.heap.size]? = some (.cells #[.int .i64 7, .int .i64 style, .bool flag, .string text, .string anchor, .string tag, .int .i64 at_, .int .i64 code] 33 (0, 0)) := (hb1.block _ (by show w.heap.size < (w.heap.push _).size; simp)).trans HNEW.out
  have HNW : Hid (w1.heap[w.heap.size]? = some (.cells #[.int .i64 7, .int .i64 style, .bool flag, .string text, .string anchor, .string tag, .int .i64 at_, .int .i64 code] 33 (0, 0))) := hnew
  obtain ⟨q0, q1, q2, q3, q4, q5, q6, q7⟩ := ev_at hnew
  clear hb1 hnew HAL HNEW
  go_wp2_with fail
  go_ret
  exact ⟨rfl, HB1.out⟩
set_option linter.unusedSimpArgs false in
set_option maxHeartbeats 8000000 in
theorem tx_9 (style : Int) (flag : Bool) (text anchor tag : ByteArray) (at_ code : Int) (w : World) (ht : text.size ≤ 1048576 ∧ anchor.size ≤ 1048576 ∧ tag.size ≤ 1048576)  (hok : evOk ⟨9, style, flag, text, anchor, tag, at_, code⟩ = true) :
    Calls Tryd.prog 10 #[.agg (Ev.row ⟨9, style, flag, text, anchor, tag, at_, code⟩)] w fun r w' => r = .returned (.string (evLine ⟨9, style, flag, text, anchor, tag, at_, code⟩)) ∧ Below w.heap.size w w' := by
  have cO : Hid (∀ w, Calls Tryd.prog 17 #[.agg #[.int .i64 9, .int .i64 style, .bool flag, .string text, .string anchor, .string tag, .int .i64 at_, .int .i64 code]] w fun r w' => r = .returned (.bool true) ∧ Below w.heap.size w w') := fun w => spec_eventOk ⟨9, style, flag, text, anchor, tag, at_, code⟩ w ⟨by have := ht.1; unfold mx; show text.size ≤ _; omega, by have := ht.2.1; unfold mx; show anchor.size ≤ _; omega, by have := ht.2.2; unfold mx; show tag.size ≤ _; omega⟩ true hok
  have HV : Hid (evLine ⟨9, style, flag, text, anchor, tag, at_, code⟩ = (⟨#[45, 83, 84, 82]⟩ : ByteArray)) := by
    show evLine ⟨9, style, flag, text, anchor, tag, at_, code⟩ = (⟨#[45, 83, 84, 82]⟩ : ByteArray)
    simp [evLine, evLine]
  show Calls Tryd.prog 10 #[.agg #[.int .i64 9, .int .i64 style, .bool flag, .string text, .string anchor, .string tag, .int .i64 at_, .int .i64 code]] w fun r w' => r = .returned (.string (evLine ⟨9, style, flag, text, anchor, tag, at_, code⟩)) ∧ Below w.heap.size w w'
  rw [HV.out]
  have HAL : Hid (Below w.heap.size w (w.alloc (.cells #[.int .i64 9, .int .i64 style, .bool flag, .string text, .string anchor, .string tag, .int .i64 at_, .int .i64 code] 33))) := (Below.refl _ w).alloc (Nat.le_refl _) _
  have HNEW : Hid ((w.alloc (.cells #[.int .i64 9, .int .i64 style, .bool flag, .string text, .string anchor, .string tag, .int .i64 at_, .int .i64 code] 33)).heap[w.heap.size]? = some (.cells #[.int .i64 9, .int .i64 style, .bool flag, .string text, .string anchor, .string tag, .int .i64 at_, .int .i64 code] 33 (0, 0))) := heap_alloc_new w _
  clear hok ht HV
  go_enter Tryd.func10, Tryd.ntmps10
  go_wp2_with fail
  refine (cO.out _).mono ?_
  rintro r w1 ⟨rfl, hb1⟩
  clear cO
  have HB1 : Hid (Below w.heap.size w w1) := HAL.out.trans (hb1.mono HAL.out.size)
  have hnew : w1.heap[w.heap.size]? = some (.cells #[.int .i64 9, .int .i64 style, .bool flag, .string text, .string anchor, .string tag, .int .i64 at_, .int .i64 code] 33 (0, 0)) := (hb1.block _ (by show w.heap.size < (w.heap.push _).size; simp)).trans HNEW.out
  have HNW : Hid (w1.heap[w.heap.size]? = some (.cells #[.int .i64 9, .int .i64 style, .bool flag, .string text, .string anchor, .string tag, .int .i64 at_, .int .i64 code] 33 (0, 0))) := hnew
  obtain ⟨q0, q1, q2, q3, q4, q5, q6, q7⟩ := ev_at hnew
  clear hb1 hnew HAL HNEW
  go_wp2_with fail
  go_ret
  exact ⟨rfl, HB1.out⟩
set_option linter.unusedSimpArgs false in
set_option maxHeartbeats 8000000 in
theorem tx_2t (style : Int) (text anchor tag : ByteArray) (at_ code : Int) (w : World) (ht : text.size ≤ 1048576 ∧ anchor.size ≤ 1048576 ∧ tag.size ≤ 1048576)  (hok : evOk ⟨2, style, true, text, anchor, tag, at_, code⟩ = true) :
    Calls Tryd.prog 10 #[.agg (Ev.row ⟨2, style, true, text, anchor, tag, at_, code⟩)] w fun r w' => r = .returned (.string (evLine ⟨2, style, true, text, anchor, tag, at_, code⟩)) ∧ Below w.heap.size w w' := by
  have cO : Hid (∀ w, Calls Tryd.prog 17 #[.agg #[.int .i64 2, .int .i64 style, .bool true, .string text, .string anchor, .string tag, .int .i64 at_, .int .i64 code]] w fun r w' => r = .returned (.bool true) ∧ Below w.heap.size w w') := fun w => spec_eventOk ⟨2, style, true, text, anchor, tag, at_, code⟩ w ⟨by have := ht.1; unfold mx; show text.size ≤ _; omega, by have := ht.2.1; unfold mx; show anchor.size ≤ _; omega, by have := ht.2.2; unfold mx; show tag.size ≤ _; omega⟩ true hok
  have HV : Hid (evLine ⟨2, style, true, text, anchor, tag, at_, code⟩ = (⟨#[43, 68, 79, 67, 32, 45, 45, 45]⟩ : ByteArray)) := by
    show evLine ⟨2, style, true, text, anchor, tag, at_, code⟩ = (⟨#[43, 68, 79, 67, 32, 45, 45, 45]⟩ : ByteArray)
    simp [evLine, evLine]
  show Calls Tryd.prog 10 #[.agg #[.int .i64 2, .int .i64 style, .bool true, .string text, .string anchor, .string tag, .int .i64 at_, .int .i64 code]] w fun r w' => r = .returned (.string (evLine ⟨2, style, true, text, anchor, tag, at_, code⟩)) ∧ Below w.heap.size w w'
  rw [HV.out]
  have HAL : Hid (Below w.heap.size w (w.alloc (.cells #[.int .i64 2, .int .i64 style, .bool true, .string text, .string anchor, .string tag, .int .i64 at_, .int .i64 code] 33))) := (Below.refl _ w).alloc (Nat.le_refl _) _
  have HNEW : Hid ((w.alloc (.cells #[.int .i64 2, .int .i64 style, .bool true, .string text, .string anchor, .string tag, .int .i64 at_, .int .i64 code] 33)).heap[w.heap.size]? = some (.cells #[.int .i64 2, .int .i64 style, .bool true, .string text, .string anchor, .string tag, .int .i64 at_, .int .i64 code] 33 (0, 0))) := heap_alloc_new w _
  clear hok ht HV
  go_enter Tryd.func10, Tryd.ntmps10
  go_wp2_with fail
  refine (cO.out _).mono ?_
  rintro r w1 ⟨rfl, hb1⟩
  clear cO
  have HB1 : Hid (Below w.heap.size w w1) := HAL.out.trans (hb1.mono HAL.out.size)
  have hnew : w1.heap[w.heap.size]? = some (.cells #[.int .i64 2, .int .i64 style, .bool true, .string text, .string anchor, .string tag, .int .i64 at_, .int .i64 code] 33 (0, 0)) := (hb1.block _ (by show w.heap.size < (w.heap.push _).size; simp)).trans HNEW.out
  have HNW : Hid (w1.heap[w.heap.size]? = some (.cells #[.int .i64 2, .int .i64 style, .bool true, .string text, .string anchor, .string tag, .int .i64 at_, .int .i64 code] 33 (0, 0))) := hnew
  obtain ⟨q0, q1, q2, q3, q4, q5, q6, q7⟩ := ev_at hnew
  clear hb1 hnew HAL HNEW
  go_wp2_with fail
  go_ret
  exact ⟨rfl, HB1.out⟩
set_option linter.unusedSimpArgs false in
set_option maxHeartbeats 8000000 in
theorem tx_2f (style : Int) (text anchor tag : ByteArray) (at_ code : Int) (w : World) (ht : text.size ≤ 1048576 ∧ anchor.size ≤ 1048576 ∧ tag.size ≤ 1048576)  (hok : evOk ⟨2, style, false, text, anchor, tag, at_, code⟩ = true) :
    Calls Tryd.prog 10 #[.agg (Ev.row ⟨2, style, false, text, anchor, tag, at_, code⟩)] w fun r w' => r = .returned (.string (evLine ⟨2, style, false, text, anchor, tag, at_, code⟩)) ∧ Below w.heap.size w w' := by
  have cO : Hid (∀ w, Calls Tryd.prog 17 #[.agg #[.int .i64 2, .int .i64 style, .bool false, .string text, .string anchor, .string tag, .int .i64 at_, .int .i64 code]] w fun r w' => r = .returned (.bool true) ∧ Below w.heap.size w w') := fun w => spec_eventOk ⟨2, style, false, text, anchor, tag, at_, code⟩ w ⟨by have := ht.1; unfold mx; show text.size ≤ _; omega, by have := ht.2.1; unfold mx; show anchor.size ≤ _; omega, by have := ht.2.2; unfold mx; show tag.size ≤ _; omega⟩ true hok
  have HV : Hid (evLine ⟨2, style, false, text, anchor, tag, at_, code⟩ = (⟨#[43, 68, 79, 67]⟩ : ByteArray)) := by
    show evLine ⟨2, style, false, text, anchor, tag, at_, code⟩ = (⟨#[43, 68, 79, 67]⟩ : ByteArray)
    simp [evLine, evLine]
  show Calls Tryd.prog 10 #[.agg #[.int .i64 2, .int .i64 style, .bool false, .string text, .string anchor, .string tag, .int .i64 at_, .int .i64 code]] w fun r w' => r = .returned (.string (evLine ⟨2, style, false, text, anchor, tag, at_, code⟩)) ∧ Below w.heap.size w w'
  rw [HV.out]
  have HAL : Hid (Below w.heap.size w (w.alloc (.cells #[.int .i64 2, .int .i64 style, .bool false, .string text, .string anchor, .string tag, .int .i64 at_, .int .i64 code] 33))) := (Below.refl _ w).alloc (Nat.le_refl _) _
  have HNEW : Hid ((w.alloc (.cells #[.int .i64 2, .int .i64 style, .bool false, .string text, .string anchor, .string tag, .int .i64 at_, .int .i64 code] 33)).heap[w.heap.size]? = some (.cells #[.int .i64 2, .int .i64 style, .bool false, .string text, .string anchor, .string tag, .int .i64 at_, .int .i64 code] 33 (0, 0))) := heap_alloc_new w _
  clear hok ht HV
  go_enter Tryd.func10, Tryd.ntmps10
  go_wp2_with fail
  refine (cO.out _).mono ?_
  rintro r w1 ⟨rfl, hb1⟩
  clear cO
  have HB1 : Hid (Below w.heap.size w w1) := HAL.out.trans (hb1.mono HAL.out.size)
  have hnew : w1.heap[w.heap.size]? = some (.cells #[.int .i64 2, .int .i64 style, .bool false, .string text, .string anchor, .string tag, .int .i64 at_, .int .i64 code] 33 (0, 0)) := (hb1.block _ (by show w.heap.size < (w.heap.push _).size; simp)).trans HNEW.out
  have HNW : Hid (w1.heap[w.heap.size]? = some (.cells #[.int .i64 2, .int .i64 style, .bool false, .string text, .string anchor, .string tag, .int .i64 at_, .int .i64 code] 33 (0, 0))) := hnew
  obtain ⟨q0, q1, q2, q3, q4, q5, q6, q7⟩ := ev_at hnew
  clear hb1 hnew HAL HNEW
  go_wp2_with fail
  go_ret
  exact ⟨rfl, HB1.out⟩
set_option linter.unusedSimpArgs false in
set_option maxHeartbeats 8000000 in
theorem tx_8t (style : Int) (text anchor tag : ByteArray) (at_ code : Int) (w : World) (ht : text.size ≤ 1048576 ∧ anchor.size ≤ 1048576 ∧ tag.size ≤ 1048576)  (hok : evOk ⟨8, style, true, text, anchor, tag, at_, code⟩ = true) :
    Calls Tryd.prog 10 #[.agg (Ev.row ⟨8, style, true, text, anchor, tag, at_, code⟩)] w fun r w' => r = .returned (.string (evLine ⟨8, style, true, text, anchor, tag, at_, code⟩)) ∧ Below w.heap.size w w' := by
  have cO : Hid (∀ w, Calls Tryd.prog 17 #[.agg #[.int .i64 8, .int .i64 style, .bool true, .string text, .string anchor, .string tag, .int .i64 at_, .int .i64 code]] w fun r w' => r = .returned (.bool true) ∧ Below w.heap.size w w') := fun w => spec_eventOk ⟨8, style, true, text, anchor, tag, at_, code⟩ w ⟨by have := ht.1; unfold mx; show text.size ≤ _; omega, by have := ht.2.1; unfold mx; show anchor.size ≤ _; omega, by have := ht.2.2; unfold mx; show tag.size ≤ _; omega⟩ true hok
  have HV : Hid (evLine ⟨8, style, true, text, anchor, tag, at_, code⟩ = (⟨#[45, 68, 79, 67, 32, 46, 46, 46]⟩ : ByteArray)) := by
    show evLine ⟨8, style, true, text, anchor, tag, at_, code⟩ = (⟨#[45, 68, 79, 67, 32, 46, 46, 46]⟩ : ByteArray)
    simp [evLine, evLine]
  show Calls Tryd.prog 10 #[.agg #[.int .i64 8, .int .i64 style, .bool true, .string text, .string anchor, .string tag, .int .i64 at_, .int .i64 code]] w fun r w' => r = .returned (.string (evLine ⟨8, style, true, text, anchor, tag, at_, code⟩)) ∧ Below w.heap.size w w'
  rw [HV.out]
  have HAL : Hid (Below w.heap.size w (w.alloc (.cells #[.int .i64 8, .int .i64 style, .bool true, .string text, .string anchor, .string tag, .int .i64 at_, .int .i64 code] 33))) := (Below.refl _ w).alloc (Nat.le_refl _) _
  have HNEW : Hid ((w.alloc (.cells #[.int .i64 8, .int .i64 style, .bool true, .string text, .string anchor, .string tag, .int .i64 at_, .int .i64 code] 33)).heap[w.heap.size]? = some (.cells #[.int .i64 8, .int .i64 style, .bool true, .string text, .string anchor, .string tag, .int .i64 at_, .int .i64 code] 33 (0, 0))) := heap_alloc_new w _
  clear hok ht HV
  go_enter Tryd.func10, Tryd.ntmps10
  go_wp2_with fail
  refine (cO.out _).mono ?_
  rintro r w1 ⟨rfl, hb1⟩
  clear cO
  have HB1 : Hid (Below w.heap.size w w1) := HAL.out.trans (hb1.mono HAL.out.size)
  have hnew : w1.heap[w.heap.size]? = some (.cells #[.int .i64 8, .int .i64 style, .bool true, .string text, .string anchor, .string tag, .int .i64 at_, .int .i64 code] 33 (0, 0)) := (hb1.block _ (by show w.heap.size < (w.heap.push _).size; simp)).trans HNEW.out
  have HNW : Hid (w1.heap[w.heap.size]? = some (.cells #[.int .i64 8, .int .i64 style, .bool true, .string text, .string anchor, .string tag, .int .i64 at_, .int .i64 code] 33 (0, 0))) := hnew
  obtain ⟨q0, q1, q2, q3, q4, q5, q6, q7⟩ := ev_at hnew
  clear hb1 hnew HAL HNEW
  go_wp2_with fail
  go_ret
  exact ⟨rfl, HB1.out⟩
set_option linter.unusedSimpArgs false in
set_option maxHeartbeats 8000000 in
theorem tx_8f (style : Int) (text anchor tag : ByteArray) (at_ code : Int) (w : World) (ht : text.size ≤ 1048576 ∧ anchor.size ≤ 1048576 ∧ tag.size ≤ 1048576)  (hok : evOk ⟨8, style, false, text, anchor, tag, at_, code⟩ = true) :
    Calls Tryd.prog 10 #[.agg (Ev.row ⟨8, style, false, text, anchor, tag, at_, code⟩)] w fun r w' => r = .returned (.string (evLine ⟨8, style, false, text, anchor, tag, at_, code⟩)) ∧ Below w.heap.size w w' := by
  have cO : Hid (∀ w, Calls Tryd.prog 17 #[.agg #[.int .i64 8, .int .i64 style, .bool false, .string text, .string anchor, .string tag, .int .i64 at_, .int .i64 code]] w fun r w' => r = .returned (.bool true) ∧ Below w.heap.size w w') := fun w => spec_eventOk ⟨8, style, false, text, anchor, tag, at_, code⟩ w ⟨by have := ht.1; unfold mx; show text.size ≤ _; omega, by have := ht.2.1; unfold mx; show anchor.size ≤ _; omega, by have := ht.2.2; unfold mx; show tag.size ≤ _; omega⟩ true hok
  have HV : Hid (evLine ⟨8, style, false, text, anchor, tag, at_, code⟩ = (⟨#[45, 68, 79, 67]⟩ : ByteArray)) := by
    show evLine ⟨8, style, false, text, anchor, tag, at_, code⟩ = (⟨#[45, 68, 79, 67]⟩ : ByteArray)
    simp [evLine, evLine]
  show Calls Tryd.prog 10 #[.agg #[.int .i64 8, .int .i64 style, .bool false, .string text, .string anchor, .string tag, .int .i64 at_, .int .i64 code]] w fun r w' => r = .returned (.string (evLine ⟨8, style, false, text, anchor, tag, at_, code⟩)) ∧ Below w.heap.size w w'
  rw [HV.out]
  have HAL : Hid (Below w.heap.size w (w.alloc (.cells #[.int .i64 8, .int .i64 style, .bool false, .string text, .string anchor, .string tag, .int .i64 at_, .int .i64 code] 33))) := (Below.refl _ w).alloc (Nat.le_refl _) _
  have HNEW : Hid ((w.alloc (.cells #[.int .i64 8, .int .i64 style, .bool false, .string text, .string anchor, .string tag, .int .i64 at_, .int .i64 code] 33)).heap[w.heap.size]? = some (.cells #[.int .i64 8, .int .i64 style, .bool false, .string text, .string anchor, .string tag, .int .i64 at_, .int .i64 code] 33 (0, 0))) := heap_alloc_new w _
  clear hok ht HV
  go_enter Tryd.func10, Tryd.ntmps10
  go_wp2_with fail
  refine (cO.out _).mono ?_
  rintro r w1 ⟨rfl, hb1⟩
  clear cO
  have HB1 : Hid (Below w.heap.size w w1) := HAL.out.trans (hb1.mono HAL.out.size)
  have hnew : w1.heap[w.heap.size]? = some (.cells #[.int .i64 8, .int .i64 style, .bool false, .string text, .string anchor, .string tag, .int .i64 at_, .int .i64 code] 33 (0, 0)) := (hb1.block _ (by show w.heap.size < (w.heap.push _).size; simp)).trans HNEW.out
  have HNW : Hid (w1.heap[w.heap.size]? = some (.cells #[.int .i64 8, .int .i64 style, .bool false, .string text, .string anchor, .string tag, .int .i64 at_, .int .i64 code] 33 (0, 0))) := hnew
  obtain ⟨q0, q1, q2, q3, q4, q5, q6, q7⟩ := ev_at hnew
  clear hb1 hnew HAL HNEW
  go_wp2_with fail
  go_ret
  exact ⟨rfl, HB1.out⟩
set_option linter.unusedSimpArgs false in
set_option maxHeartbeats 8000000 in
theorem tx_3f (flag : Bool) (text anchor tag : ByteArray) (at_ code : Int) (w : World) (ht : text.size ≤ 1048576 ∧ anchor.size ≤ 1048576 ∧ tag.size ≤ 1048576)  (hok : evOk ⟨3, 6, flag, text, anchor, tag, at_, code⟩ = true) :
    Calls Tryd.prog 10 #[.agg (Ev.row ⟨3, 6, flag, text, anchor, tag, at_, code⟩)] w fun r w' => r = .returned (.string (evLine ⟨3, 6, flag, text, anchor, tag, at_, code⟩)) ∧ Below w.heap.size w w' := by
  have cO : Hid (∀ w, Calls Tryd.prog 17 #[.agg #[.int .i64 3, .int .i64 6, .bool flag, .string text, .string anchor, .string tag, .int .i64 at_, .int .i64 code]] w fun r w' => r = .returned (.bool true) ∧ Below w.heap.size w w') := fun w => spec_eventOk ⟨3, 6, flag, text, anchor, tag, at_, code⟩ w ⟨by have := ht.1; unfold mx; show text.size ≤ _; omega, by have := ht.2.1; unfold mx; show anchor.size ≤ _; omega, by have := ht.2.2; unfold mx; show tag.size ≤ _; omega⟩ true hok
  obtain ⟨P, hP⟩ : ∃ P, propsB ⟨3, 6, flag, text, anchor, tag, at_, code⟩ = P := ⟨_, rfl⟩
  have hPz : P.size ≤ 3000000 := by
    have h1 := prA_size anchor
    have h2 := prT_size (prA anchor) tag
    have h3 := ht.2.1
    have h4 := ht.2.2
    rw [← hP]
    show (prT (prA anchor) tag).size ≤ _
    omega
  have cP : Hid (∀ w, Calls Tryd.prog 18 #[.agg #[.int .i64 3, .int .i64 6, .bool flag, .string text, .string anchor, .string tag, .int .i64 at_, .int .i64 code]] w fun r w' => r = .returned (.string P) ∧ Below w.heap.size w w') := fun w => props_any ⟨3, 6, flag, text, anchor, tag, at_, code⟩ w ht.2.1 ht.2.2 P hP
  have add1 := addS (⟨#[43, 83, 69, 81, 32, 91, 93]⟩ : ByteArray) P (by show 7 + P.size ≤ _; omega)
  clear hPz
  have HV : Hid (evLine ⟨3, 6, flag, text, anchor, tag, at_, code⟩ = (⟨#[43, 83, 69, 81, 32, 91, 93]⟩ : ByteArray) ++ P) := by
    show evLine ⟨3, 6, flag, text, anchor, tag, at_, code⟩ = (⟨#[43, 83, 69, 81, 32, 91, 93]⟩ : ByteArray) ++ P
    simp [evLine, hP]
  show Calls Tryd.prog 10 #[.agg #[.int .i64 3, .int .i64 6, .bool flag, .string text, .string anchor, .string tag, .int .i64 at_, .int .i64 code]] w fun r w' => r = .returned (.string (evLine ⟨3, 6, flag, text, anchor, tag, at_, code⟩)) ∧ Below w.heap.size w w'
  rw [HV.out]
  have HAL : Hid (Below w.heap.size w (w.alloc (.cells #[.int .i64 3, .int .i64 6, .bool flag, .string text, .string anchor, .string tag, .int .i64 at_, .int .i64 code] 33))) := (Below.refl _ w).alloc (Nat.le_refl _) _
  have HNEW : Hid ((w.alloc (.cells #[.int .i64 3, .int .i64 6, .bool flag, .string text, .string anchor, .string tag, .int .i64 at_, .int .i64 code] 33)).heap[w.heap.size]? = some (.cells #[.int .i64 3, .int .i64 6, .bool flag, .string text, .string anchor, .string tag, .int .i64 at_, .int .i64 code] 33 (0, 0))) := heap_alloc_new w _
  clear hok ht HV
  go_enter Tryd.func10, Tryd.ntmps10
  go_wp2_with fail
  refine (cO.out _).mono ?_
  rintro r w1 ⟨rfl, hb1⟩
  clear cO
  have HB1 : Hid (Below w.heap.size w w1) := HAL.out.trans (hb1.mono HAL.out.size)
  have hnew : w1.heap[w.heap.size]? = some (.cells #[.int .i64 3, .int .i64 6, .bool flag, .string text, .string anchor, .string tag, .int .i64 at_, .int .i64 code] 33 (0, 0)) := (hb1.block _ (by show w.heap.size < (w.heap.push _).size; simp)).trans HNEW.out
  have HNW : Hid (w1.heap[w.heap.size]? = some (.cells #[.int .i64 3, .int .i64 6, .bool flag, .string text, .string anchor, .string tag, .int .i64 at_, .int .i64 code] 33 (0, 0))) := hnew
  obtain ⟨q0, q1, q2, q3, q4, q5, q6, q7⟩ := ev_at hnew
  clear hb1 hnew HAL HNEW
  go_wp2_with fail
  refine (cP.out _).mono ?_
  rintro r w2 ⟨rfl, hb2⟩
  clear cP
  go_wp2_with fail
  go_ret
  exact ⟨rfl, HB1.out.trans (hb2.mono HB1.out.size)⟩
set_option linter.unusedSimpArgs false in
set_option maxHeartbeats 8000000 in
theorem tx_3b (style : Int) (flag : Bool) (text anchor tag : ByteArray) (at_ code : Int) (w : World) (ht : text.size ≤ 1048576 ∧ anchor.size ≤ 1048576 ∧ tag.size ≤ 1048576) (hne : style ≠ 6) (hok : evOk ⟨3, style, flag, text, anchor, tag, at_, code⟩ = true) :
    Calls Tryd.prog 10 #[.agg (Ev.row ⟨3, style, flag, text, anchor, tag, at_, code⟩)] w fun r w' => r = .returned (.string (evLine ⟨3, style, flag, text, anchor, tag, at_, code⟩)) ∧ Below w.heap.size w w' := by
  have cO : Hid (∀ w, Calls Tryd.prog 17 #[.agg #[.int .i64 3, .int .i64 style, .bool flag, .string text, .string anchor, .string tag, .int .i64 at_, .int .i64 code]] w fun r w' => r = .returned (.bool true) ∧ Below w.heap.size w w') := fun w => spec_eventOk ⟨3, style, flag, text, anchor, tag, at_, code⟩ w ⟨by have := ht.1; unfold mx; show text.size ≤ _; omega, by have := ht.2.1; unfold mx; show anchor.size ≤ _; omega, by have := ht.2.2; unfold mx; show tag.size ≤ _; omega⟩ true hok
  obtain ⟨P, hP⟩ : ∃ P, propsB ⟨3, style, flag, text, anchor, tag, at_, code⟩ = P := ⟨_, rfl⟩
  have hPz : P.size ≤ 3000000 := by
    have h1 := prA_size anchor
    have h2 := prT_size (prA anchor) tag
    have h3 := ht.2.1
    have h4 := ht.2.2
    rw [← hP]
    show (prT (prA anchor) tag).size ≤ _
    omega
  have cP : Hid (∀ w, Calls Tryd.prog 18 #[.agg #[.int .i64 3, .int .i64 style, .bool flag, .string text, .string anchor, .string tag, .int .i64 at_, .int .i64 code]] w fun r w' => r = .returned (.string P) ∧ Below w.heap.size w w') := fun w => props_any ⟨3, style, flag, text, anchor, tag, at_, code⟩ w ht.2.1 ht.2.2 P hP
  have add1 := addS (⟨#[43, 83, 69, 81]⟩ : ByteArray) P (by show 4 + P.size ≤ _; omega)
  have hst : (style == 6) = false := by rw [beq_eq_false_iff_ne]; exact hne
  clear hPz
  have HV : Hid (evLine ⟨3, style, flag, text, anchor, tag, at_, code⟩ = (⟨#[43, 83, 69, 81]⟩ : ByteArray) ++ P) := by
    show evLine ⟨3, style, flag, text, anchor, tag, at_, code⟩ = (⟨#[43, 83, 69, 81]⟩ : ByteArray) ++ P
    simp [evLine, hP, hne]
  show Calls Tryd.prog 10 #[.agg #[.int .i64 3, .int .i64 style, .bool flag, .string text, .string anchor, .string tag, .int .i64 at_, .int .i64 code]] w fun r w' => r = .returned (.string (evLine ⟨3, style, flag, text, anchor, tag, at_, code⟩)) ∧ Below w.heap.size w w'
  rw [HV.out]
  have HAL : Hid (Below w.heap.size w (w.alloc (.cells #[.int .i64 3, .int .i64 style, .bool flag, .string text, .string anchor, .string tag, .int .i64 at_, .int .i64 code] 33))) := (Below.refl _ w).alloc (Nat.le_refl _) _
  have HNEW : Hid ((w.alloc (.cells #[.int .i64 3, .int .i64 style, .bool flag, .string text, .string anchor, .string tag, .int .i64 at_, .int .i64 code] 33)).heap[w.heap.size]? = some (.cells #[.int .i64 3, .int .i64 style, .bool flag, .string text, .string anchor, .string tag, .int .i64 at_, .int .i64 code] 33 (0, 0))) := heap_alloc_new w _
  clear hok ht HV
  go_enter Tryd.func10, Tryd.ntmps10
  go_wp2_with fail
  refine (cO.out _).mono ?_
  rintro r w1 ⟨rfl, hb1⟩
  clear cO
  have HB1 : Hid (Below w.heap.size w w1) := HAL.out.trans (hb1.mono HAL.out.size)
  have hnew : w1.heap[w.heap.size]? = some (.cells #[.int .i64 3, .int .i64 style, .bool flag, .string text, .string anchor, .string tag, .int .i64 at_, .int .i64 code] 33 (0, 0)) := (hb1.block _ (by show w.heap.size < (w.heap.push _).size; simp)).trans HNEW.out
  have HNW : Hid (w1.heap[w.heap.size]? = some (.cells #[.int .i64 3, .int .i64 style, .bool flag, .string text, .string anchor, .string tag, .int .i64 at_, .int .i64 code] 33 (0, 0))) := hnew
  obtain ⟨q0, q1, q2, q3, q4, q5, q6, q7⟩ := ev_at hnew
  clear hb1 hnew HAL HNEW
  go_wp2_with fail
  refine (cP.out _).mono ?_
  rintro r w2 ⟨rfl, hb2⟩
  clear cP
  go_wp2_with fail
  go_ret
  exact ⟨rfl, HB1.out.trans (hb2.mono HB1.out.size)⟩
set_option linter.unusedSimpArgs false in
set_option maxHeartbeats 8000000 in
theorem tx_4f (flag : Bool) (text anchor tag : ByteArray) (at_ code : Int) (w : World) (ht : text.size ≤ 1048576 ∧ anchor.size ≤ 1048576 ∧ tag.size ≤ 1048576)  (hok : evOk ⟨4, 6, flag, text, anchor, tag, at_, code⟩ = true) :
    Calls Tryd.prog 10 #[.agg (Ev.row ⟨4, 6, flag, text, anchor, tag, at_, code⟩)] w fun r w' => r = .returned (.string (evLine ⟨4, 6, flag, text, anchor, tag, at_, code⟩)) ∧ Below w.heap.size w w' := by
  have cO : Hid (∀ w, Calls Tryd.prog 17 #[.agg #[.int .i64 4, .int .i64 6, .bool flag, .string text, .string anchor, .string tag, .int .i64 at_, .int .i64 code]] w fun r w' => r = .returned (.bool true) ∧ Below w.heap.size w w') := fun w => spec_eventOk ⟨4, 6, flag, text, anchor, tag, at_, code⟩ w ⟨by have := ht.1; unfold mx; show text.size ≤ _; omega, by have := ht.2.1; unfold mx; show anchor.size ≤ _; omega, by have := ht.2.2; unfold mx; show tag.size ≤ _; omega⟩ true hok
  obtain ⟨P, hP⟩ : ∃ P, propsB ⟨4, 6, flag, text, anchor, tag, at_, code⟩ = P := ⟨_, rfl⟩
  have hPz : P.size ≤ 3000000 := by
    have h1 := prA_size anchor
    have h2 := prT_size (prA anchor) tag
    have h3 := ht.2.1
    have h4 := ht.2.2
    rw [← hP]
    show (prT (prA anchor) tag).size ≤ _
    omega
  have cP : Hid (∀ w, Calls Tryd.prog 18 #[.agg #[.int .i64 4, .int .i64 6, .bool flag, .string text, .string anchor, .string tag, .int .i64 at_, .int .i64 code]] w fun r w' => r = .returned (.string P) ∧ Below w.heap.size w w') := fun w => props_any ⟨4, 6, flag, text, anchor, tag, at_, code⟩ w ht.2.1 ht.2.2 P hP
  have add1 := addS (⟨#[43, 77, 65, 80, 32, 123, 125]⟩ : ByteArray) P (by show 7 + P.size ≤ _; omega)
  clear hPz
  have HV : Hid (evLine ⟨4, 6, flag, text, anchor, tag, at_, code⟩ = (⟨#[43, 77, 65, 80, 32, 123, 125]⟩ : ByteArray) ++ P) := by
    show evLine ⟨4, 6, flag, text, anchor, tag, at_, code⟩ = (⟨#[43, 77, 65, 80, 32, 123, 125]⟩ : ByteArray) ++ P
    simp [evLine, hP]
  show Calls Tryd.prog 10 #[.agg #[.int .i64 4, .int .i64 6, .bool flag, .string text, .string anchor, .string tag, .int .i64 at_, .int .i64 code]] w fun r w' => r = .returned (.string (evLine ⟨4, 6, flag, text, anchor, tag, at_, code⟩)) ∧ Below w.heap.size w w'
  rw [HV.out]
  have HAL : Hid (Below w.heap.size w (w.alloc (.cells #[.int .i64 4, .int .i64 6, .bool flag, .string text, .string anchor, .string tag, .int .i64 at_, .int .i64 code] 33))) := (Below.refl _ w).alloc (Nat.le_refl _) _
  have HNEW : Hid ((w.alloc (.cells #[.int .i64 4, .int .i64 6, .bool flag, .string text, .string anchor, .string tag, .int .i64 at_, .int .i64 code] 33)).heap[w.heap.size]? = some (.cells #[.int .i64 4, .int .i64 6, .bool flag, .string text, .string anchor, .string tag, .int .i64 at_, .int .i64 code] 33 (0, 0))) := heap_alloc_new w _
  clear hok ht HV
  go_enter Tryd.func10, Tryd.ntmps10
  go_wp2_with fail
  refine (cO.out _).mono ?_
  rintro r w1 ⟨rfl, hb1⟩
  clear cO
  have HB1 : Hid (Below w.heap.size w w1) := HAL.out.trans (hb1.mono HAL.out.size)
  have hnew : w1.heap[w.heap.size]? = some (.cells #[.int .i64 4, .int .i64 6, .bool flag, .string text, .string anchor, .string tag, .int .i64 at_, .int .i64 code] 33 (0, 0)) := (hb1.block _ (by show w.heap.size < (w.heap.push _).size; simp)).trans HNEW.out
  have HNW : Hid (w1.heap[w.heap.size]? = some (.cells #[.int .i64 4, .int .i64 6, .bool flag, .string text, .string anchor, .string tag, .int .i64 at_, .int .i64 code] 33 (0, 0))) := hnew
  obtain ⟨q0, q1, q2, q3, q4, q5, q6, q7⟩ := ev_at hnew
  clear hb1 hnew HAL HNEW
  go_wp2_with fail
  refine (cP.out _).mono ?_
  rintro r w2 ⟨rfl, hb2⟩
  clear cP
  go_wp2_with fail
  go_ret
  exact ⟨rfl, HB1.out.trans (hb2.mono HB1.out.size)⟩
set_option linter.unusedSimpArgs false in
set_option maxHeartbeats 8000000 in
theorem tx_4b (style : Int) (flag : Bool) (text anchor tag : ByteArray) (at_ code : Int) (w : World) (ht : text.size ≤ 1048576 ∧ anchor.size ≤ 1048576 ∧ tag.size ≤ 1048576) (hne : style ≠ 6) (hok : evOk ⟨4, style, flag, text, anchor, tag, at_, code⟩ = true) :
    Calls Tryd.prog 10 #[.agg (Ev.row ⟨4, style, flag, text, anchor, tag, at_, code⟩)] w fun r w' => r = .returned (.string (evLine ⟨4, style, flag, text, anchor, tag, at_, code⟩)) ∧ Below w.heap.size w w' := by
  have cO : Hid (∀ w, Calls Tryd.prog 17 #[.agg #[.int .i64 4, .int .i64 style, .bool flag, .string text, .string anchor, .string tag, .int .i64 at_, .int .i64 code]] w fun r w' => r = .returned (.bool true) ∧ Below w.heap.size w w') := fun w => spec_eventOk ⟨4, style, flag, text, anchor, tag, at_, code⟩ w ⟨by have := ht.1; unfold mx; show text.size ≤ _; omega, by have := ht.2.1; unfold mx; show anchor.size ≤ _; omega, by have := ht.2.2; unfold mx; show tag.size ≤ _; omega⟩ true hok
  obtain ⟨P, hP⟩ : ∃ P, propsB ⟨4, style, flag, text, anchor, tag, at_, code⟩ = P := ⟨_, rfl⟩
  have hPz : P.size ≤ 3000000 := by
    have h1 := prA_size anchor
    have h2 := prT_size (prA anchor) tag
    have h3 := ht.2.1
    have h4 := ht.2.2
    rw [← hP]
    show (prT (prA anchor) tag).size ≤ _
    omega
  have cP : Hid (∀ w, Calls Tryd.prog 18 #[.agg #[.int .i64 4, .int .i64 style, .bool flag, .string text, .string anchor, .string tag, .int .i64 at_, .int .i64 code]] w fun r w' => r = .returned (.string P) ∧ Below w.heap.size w w') := fun w => props_any ⟨4, style, flag, text, anchor, tag, at_, code⟩ w ht.2.1 ht.2.2 P hP
  have add1 := addS (⟨#[43, 77, 65, 80]⟩ : ByteArray) P (by show 4 + P.size ≤ _; omega)
  have hst : (style == 6) = false := by rw [beq_eq_false_iff_ne]; exact hne
  clear hPz
  have HV : Hid (evLine ⟨4, style, flag, text, anchor, tag, at_, code⟩ = (⟨#[43, 77, 65, 80]⟩ : ByteArray) ++ P) := by
    show evLine ⟨4, style, flag, text, anchor, tag, at_, code⟩ = (⟨#[43, 77, 65, 80]⟩ : ByteArray) ++ P
    simp [evLine, hP, hne]
  show Calls Tryd.prog 10 #[.agg #[.int .i64 4, .int .i64 style, .bool flag, .string text, .string anchor, .string tag, .int .i64 at_, .int .i64 code]] w fun r w' => r = .returned (.string (evLine ⟨4, style, flag, text, anchor, tag, at_, code⟩)) ∧ Below w.heap.size w w'
  rw [HV.out]
  have HAL : Hid (Below w.heap.size w (w.alloc (.cells #[.int .i64 4, .int .i64 style, .bool flag, .string text, .string anchor, .string tag, .int .i64 at_, .int .i64 code] 33))) := (Below.refl _ w).alloc (Nat.le_refl _) _
  have HNEW : Hid ((w.alloc (.cells #[.int .i64 4, .int .i64 style, .bool flag, .string text, .string anchor, .string tag, .int .i64 at_, .int .i64 code] 33)).heap[w.heap.size]? = some (.cells #[.int .i64 4, .int .i64 style, .bool flag, .string text, .string anchor, .string tag, .int .i64 at_, .int .i64 code] 33 (0, 0))) := heap_alloc_new w _
  clear hok ht HV
  go_enter Tryd.func10, Tryd.ntmps10
  go_wp2_with fail
  refine (cO.out _).mono ?_
  rintro r w1 ⟨rfl, hb1⟩
  clear cO
  have HB1 : Hid (Below w.heap.size w w1) := HAL.out.trans (hb1.mono HAL.out.size)
  have hnew : w1.heap[w.heap.size]? = some (.cells #[.int .i64 4, .int .i64 style, .bool flag, .string text, .string anchor, .string tag, .int .i64 at_, .int .i64 code] 33 (0, 0)) := (hb1.block _ (by show w.heap.size < (w.heap.push _).size; simp)).trans HNEW.out
  have HNW : Hid (w1.heap[w.heap.size]? = some (.cells #[.int .i64 4, .int .i64 style, .bool flag, .string text, .string anchor, .string tag, .int .i64 at_, .int .i64 code] 33 (0, 0))) := hnew
  obtain ⟨q0, q1, q2, q3, q4, q5, q6, q7⟩ := ev_at hnew
  clear hb1 hnew HAL HNEW
  go_wp2_with fail
  refine (cP.out _).mono ?_
  rintro r w2 ⟨rfl, hb2⟩
  clear cP
  go_wp2_with fail
  go_ret
  exact ⟨rfl, HB1.out.trans (hb2.mono HB1.out.size)⟩
set_option linter.unusedSimpArgs false in
set_option maxHeartbeats 8000000 in
theorem tx_6 (style : Int) (flag : Bool) (text anchor tag : ByteArray) (at_ code : Int) (w : World) (ht : text.size ≤ 1048576 ∧ anchor.size ≤ 1048576 ∧ tag.size ≤ 1048576)  (hok : evOk ⟨6, style, flag, text, anchor, tag, at_, code⟩ = true) :
    Calls Tryd.prog 10 #[.agg (Ev.row ⟨6, style, flag, text, anchor, tag, at_, code⟩)] w fun r w' => r = .returned (.string (evLine ⟨6, style, flag, text, anchor, tag, at_, code⟩)) ∧ Below w.heap.size w w' := by
  have cO : Hid (∀ w, Calls Tryd.prog 17 #[.agg #[.int .i64 6, .int .i64 style, .bool flag, .string text, .string anchor, .string tag, .int .i64 at_, .int .i64 code]] w fun r w' => r = .returned (.bool true) ∧ Below w.heap.size w w') := fun w => spec_eventOk ⟨6, style, flag, text, anchor, tag, at_, code⟩ w ⟨by have := ht.1; unfold mx; show text.size ≤ _; omega, by have := ht.2.1; unfold mx; show anchor.size ≤ _; omega, by have := ht.2.2; unfold mx; show tag.size ≤ _; omega⟩ true hok
  have add1 := addS (⟨#[61, 65, 76, 73, 32, 42]⟩ : ByteArray) text (by show 6 + text.size ≤ _; have := ht.1; omega)
  have HV : Hid (evLine ⟨6, style, flag, text, anchor, tag, at_, code⟩ = (⟨#[61, 65, 76, 73, 32, 42]⟩ : ByteArray) ++ text) := by
    show evLine ⟨6, style, flag, text, anchor, tag, at_, code⟩ = (⟨#[61, 65, 76, 73, 32, 42]⟩ : ByteArray) ++ text
    simp [evLine, evLine]
  show Calls Tryd.prog 10 #[.agg #[.int .i64 6, .int .i64 style, .bool flag, .string text, .string anchor, .string tag, .int .i64 at_, .int .i64 code]] w fun r w' => r = .returned (.string (evLine ⟨6, style, flag, text, anchor, tag, at_, code⟩)) ∧ Below w.heap.size w w'
  rw [HV.out]
  have HAL : Hid (Below w.heap.size w (w.alloc (.cells #[.int .i64 6, .int .i64 style, .bool flag, .string text, .string anchor, .string tag, .int .i64 at_, .int .i64 code] 33))) := (Below.refl _ w).alloc (Nat.le_refl _) _
  have HNEW : Hid ((w.alloc (.cells #[.int .i64 6, .int .i64 style, .bool flag, .string text, .string anchor, .string tag, .int .i64 at_, .int .i64 code] 33)).heap[w.heap.size]? = some (.cells #[.int .i64 6, .int .i64 style, .bool flag, .string text, .string anchor, .string tag, .int .i64 at_, .int .i64 code] 33 (0, 0))) := heap_alloc_new w _
  clear hok ht HV
  go_enter Tryd.func10, Tryd.ntmps10
  go_wp2_with fail
  refine (cO.out _).mono ?_
  rintro r w1 ⟨rfl, hb1⟩
  clear cO
  have HB1 : Hid (Below w.heap.size w w1) := HAL.out.trans (hb1.mono HAL.out.size)
  have hnew : w1.heap[w.heap.size]? = some (.cells #[.int .i64 6, .int .i64 style, .bool flag, .string text, .string anchor, .string tag, .int .i64 at_, .int .i64 code] 33 (0, 0)) := (hb1.block _ (by show w.heap.size < (w.heap.push _).size; simp)).trans HNEW.out
  have HNW : Hid (w1.heap[w.heap.size]? = some (.cells #[.int .i64 6, .int .i64 style, .bool flag, .string text, .string anchor, .string tag, .int .i64 at_, .int .i64 code] 33 (0, 0))) := hnew
  obtain ⟨q0, q1, q2, q3, q4, q5, q6, q7⟩ := ev_at hnew
  clear hb1 hnew HAL HNEW
  go_wp2_with fail
  go_ret
  exact ⟨rfl, HB1.out⟩
set_option linter.unusedSimpArgs false in
set_option maxHeartbeats 8000000 in
theorem tx_51 (flag : Bool) (text anchor tag : ByteArray) (at_ code : Int) (w : World) (ht : text.size ≤ 1048576 ∧ anchor.size ≤ 1048576 ∧ tag.size ≤ 1048576)  (hok : evOk ⟨5, 1, flag, text, anchor, tag, at_, code⟩ = true) :
    Calls Tryd.prog 10 #[.agg (Ev.row ⟨5, 1, flag, text, anchor, tag, at_, code⟩)] w fun r w' => r = .returned (.string (evLine ⟨5, 1, flag, text, anchor, tag, at_, code⟩)) ∧ Below w.heap.size w w' := by
  have cO : Hid (∀ w, Calls Tryd.prog 17 #[.agg #[.int .i64 5, .int .i64 1, .bool flag, .string text, .string anchor, .string tag, .int .i64 at_, .int .i64 code]] w fun r w' => r = .returned (.bool true) ∧ Below w.heap.size w w') := fun w => spec_eventOk ⟨5, 1, flag, text, anchor, tag, at_, code⟩ w ⟨by have := ht.1; unfold mx; show text.size ≤ _; omega, by have := ht.2.1; unfold mx; show anchor.size ≤ _; omega, by have := ht.2.2; unfold mx; show tag.size ≤ _; omega⟩ true hok
  obtain ⟨P, hP⟩ : ∃ P, propsB ⟨5, 1, flag, text, anchor, tag, at_, code⟩ = P := ⟨_, rfl⟩
  have hPz : P.size ≤ 3000000 := by
    have h1 := prA_size anchor
    have h2 := prT_size (prA anchor) tag
    have h3 := ht.2.1
    have h4 := ht.2.2
    rw [← hP]
    show (prT (prA anchor) tag).size ≤ _
    omega
  have cP : Hid (∀ w, Calls Tryd.prog 18 #[.agg #[.int .i64 5, .int .i64 1, .bool flag, .string text, .string anchor, .string tag, .int .i64 at_, .int .i64 code]] w fun r w' => r = .returned (.string P) ∧ Below w.heap.size w w') := fun w => props_any ⟨5, 1, flag, text, anchor, tag, at_, code⟩ w ht.2.1 ht.2.2 P hP
  obtain ⟨X, hX⟩ : ∃ X, escS text = X := ⟨_, rfl⟩
  have hXz : X.size ≤ 2097152 := by rw [← hX]; have := escS_size text; have := ht.1; omega
  have cX : Hid (∀ w, Calls Tryd.prog 19 #[.string text] w fun r w' => r = .returned (.string X) ∧ Below w.heap.size w w') := fun w => spec_escape text w ht.1 X hX
  have hxt : (⟨#[32, 58, 39, 34, 124, 62]⟩ : ByteArray).extract 1 2 = (⟨#[58]⟩ : ByteArray) := by rfl
  have add1 := addS (⟨#[61, 86, 65, 76]⟩ : ByteArray) P (by show 4 + P.size ≤ _; omega)
  have add2 := addS ((⟨#[61, 86, 65, 76]⟩ : ByteArray) ++ P) (⟨#[32]⟩ : ByteArray) (by rw [ByteArray.size_append]; show 4 + P.size + 1 ≤ _; omega)
  have add3 := addS ((⟨#[61, 86, 65, 76]⟩ : ByteArray) ++ P ++ (⟨#[32]⟩ : ByteArray)) (⟨#[58]⟩ : ByteArray) (by rw [ByteArray.size_append, ByteArray.size_append]; show 4 + P.size + 1 + 1 ≤ _; omega)
  have add4 := addS ((⟨#[61, 86, 65, 76]⟩ : ByteArray) ++ P ++ (⟨#[32]⟩ : ByteArray) ++ (⟨#[58]⟩ : ByteArray)) X (by rw [ByteArray.size_append, ByteArray.size_append, ByteArray.size_append]; show 4 + P.size + 1 + 1 + X.size ≤ _; omega)
  clear hPz hXz
  have HV : Hid (evLine ⟨5, 1, flag, text, anchor, tag, at_, code⟩ = (⟨#[61, 86, 65, 76]⟩ : ByteArray) ++ P ++ (⟨#[32]⟩ : ByteArray) ++ (⟨#[58]⟩ : ByteArray) ++ X) := by
    show evLine ⟨5, 1, flag, text, anchor, tag, at_, code⟩ = (⟨#[61, 86, 65, 76]⟩ : ByteArray) ++ P ++ (⟨#[32]⟩ : ByteArray) ++ (⟨#[58]⟩ : ByteArray) ++ X
    simp [evLine, hP, hX, hxt]
  show Calls Tryd.prog 10 #[.agg #[.int .i64 5, .int .i64 1, .bool flag, .string text, .string anchor, .string tag, .int .i64 at_, .int .i64 code]] w fun r w' => r = .returned (.string (evLine ⟨5, 1, flag, text, anchor, tag, at_, code⟩)) ∧ Below w.heap.size w w'
  rw [HV.out]
  have HAL : Hid (Below w.heap.size w (w.alloc (.cells #[.int .i64 5, .int .i64 1, .bool flag, .string text, .string anchor, .string tag, .int .i64 at_, .int .i64 code] 33))) := (Below.refl _ w).alloc (Nat.le_refl _) _
  have HNEW : Hid ((w.alloc (.cells #[.int .i64 5, .int .i64 1, .bool flag, .string text, .string anchor, .string tag, .int .i64 at_, .int .i64 code] 33)).heap[w.heap.size]? = some (.cells #[.int .i64 5, .int .i64 1, .bool flag, .string text, .string anchor, .string tag, .int .i64 at_, .int .i64 code] 33 (0, 0))) := heap_alloc_new w _
  clear hok ht HV
  go_enter Tryd.func10, Tryd.ntmps10
  go_wp2_with fail
  refine (cO.out _).mono ?_
  rintro r w1 ⟨rfl, hb1⟩
  clear cO
  have HB1 : Hid (Below w.heap.size w w1) := HAL.out.trans (hb1.mono HAL.out.size)
  have hnew : w1.heap[w.heap.size]? = some (.cells #[.int .i64 5, .int .i64 1, .bool flag, .string text, .string anchor, .string tag, .int .i64 at_, .int .i64 code] 33 (0, 0)) := (hb1.block _ (by show w.heap.size < (w.heap.push _).size; simp)).trans HNEW.out
  have HNW : Hid (w1.heap[w.heap.size]? = some (.cells #[.int .i64 5, .int .i64 1, .bool flag, .string text, .string anchor, .string tag, .int .i64 at_, .int .i64 code] 33 (0, 0))) := hnew
  obtain ⟨q0, q1, q2, q3, q4, q5, q6, q7⟩ := ev_at hnew
  clear hb1 hnew HAL HNEW
  have hE1 := Bw.calls (w := w1) (fun w' _ => cP.out w')
  have hE2 := Bw.calls (w := w1) (fun w' _ => cX.out w')
  have hne := Bw.some w1
  have HR : Hid (∀ m : Bw w1, m.val.heap[w.heap.size]? = some (.cells #[.int .i64 5, .int .i64 1, .bool flag, .string text, .string anchor, .string tag, .int .i64 at_, .int .i64 code] 33 (0, 0))) := fun m => (m.ok.block _ (Array.getElem?_eq_some_iff.1 HNW.out).1).trans HNW.out
  have d0 := fun m => (ev_at (HR.out m)).1
  have d1 := fun m => (ev_at (HR.out m)).2.1
  have d2 := fun m => (ev_at (HR.out m)).2.2.1
  have d3 := fun m => (ev_at (HR.out m)).2.2.2.1
  have d4 := fun m => (ev_at (HR.out m)).2.2.2.2.1
  have d5 := fun m => (ev_at (HR.out m)).2.2.2.2.2.1
  have d6 := fun m => (ev_at (HR.out m)).2.2.2.2.2.2.1
  have d7 := fun m => (ev_at (HR.out m)).2.2.2.2.2.2.2
  clear cP cX
  go_wp2_with fail
  refine wp_region_bw (w0 := w1) (by kernel_rfl) (by kernel_rfl) (Below.refl _ _) ?_
  repeat (go_big_quiet_step (first | (go_at_call 18; exact hE1 _) | (go_at_call 19; exact hE2 _)))
  refine wpQuiet_nil ?_
  rintro _ ⟨m, rfl⟩
  have hB2 : Below w.heap.size w m.val := HB1.out.trans (m.ok.mono HB1.out.size)
  generalize m.val = w2 at *
  clear d0 d1 d2 d3 d4 d5 d6 d7 hE1 hE2 hne q0 q1 q2 q3 q4 q5 q6 q7
  go_wp2_with fail
  go_ret
  exact ⟨rfl, hB2⟩
set_option linter.unusedSimpArgs false in
set_option maxHeartbeats 8000000 in
theorem tx_52 (flag : Bool) (text anchor tag : ByteArray) (at_ code : Int) (w : World) (ht : text.size ≤ 1048576 ∧ anchor.size ≤ 1048576 ∧ tag.size ≤ 1048576)  (hok : evOk ⟨5, 2, flag, text, anchor, tag, at_, code⟩ = true) :
    Calls Tryd.prog 10 #[.agg (Ev.row ⟨5, 2, flag, text, anchor, tag, at_, code⟩)] w fun r w' => r = .returned (.string (evLine ⟨5, 2, flag, text, anchor, tag, at_, code⟩)) ∧ Below w.heap.size w w' := by
  have cO : Hid (∀ w, Calls Tryd.prog 17 #[.agg #[.int .i64 5, .int .i64 2, .bool flag, .string text, .string anchor, .string tag, .int .i64 at_, .int .i64 code]] w fun r w' => r = .returned (.bool true) ∧ Below w.heap.size w w') := fun w => spec_eventOk ⟨5, 2, flag, text, anchor, tag, at_, code⟩ w ⟨by have := ht.1; unfold mx; show text.size ≤ _; omega, by have := ht.2.1; unfold mx; show anchor.size ≤ _; omega, by have := ht.2.2; unfold mx; show tag.size ≤ _; omega⟩ true hok
  obtain ⟨P, hP⟩ : ∃ P, propsB ⟨5, 2, flag, text, anchor, tag, at_, code⟩ = P := ⟨_, rfl⟩
  have hPz : P.size ≤ 3000000 := by
    have h1 := prA_size anchor
    have h2 := prT_size (prA anchor) tag
    have h3 := ht.2.1
    have h4 := ht.2.2
    rw [← hP]
    show (prT (prA anchor) tag).size ≤ _
    omega
  have cP : Hid (∀ w, Calls Tryd.prog 18 #[.agg #[.int .i64 5, .int .i64 2, .bool flag, .string text, .string anchor, .string tag, .int .i64 at_, .int .i64 code]] w fun r w' => r = .returned (.string P) ∧ Below w.heap.size w w') := fun w => props_any ⟨5, 2, flag, text, anchor, tag, at_, code⟩ w ht.2.1 ht.2.2 P hP
  obtain ⟨X, hX⟩ : ∃ X, escS text = X := ⟨_, rfl⟩
  have hXz : X.size ≤ 2097152 := by rw [← hX]; have := escS_size text; have := ht.1; omega
  have cX : Hid (∀ w, Calls Tryd.prog 19 #[.string text] w fun r w' => r = .returned (.string X) ∧ Below w.heap.size w w') := fun w => spec_escape text w ht.1 X hX
  have hxt : (⟨#[32, 58, 39, 34, 124, 62]⟩ : ByteArray).extract 2 3 = (⟨#[39]⟩ : ByteArray) := by rfl
  have add1 := addS (⟨#[61, 86, 65, 76]⟩ : ByteArray) P (by show 4 + P.size ≤ _; omega)
  have add2 := addS ((⟨#[61, 86, 65, 76]⟩ : ByteArray) ++ P) (⟨#[32]⟩ : ByteArray) (by rw [ByteArray.size_append]; show 4 + P.size + 1 ≤ _; omega)
  have add3 := addS ((⟨#[61, 86, 65, 76]⟩ : ByteArray) ++ P ++ (⟨#[32]⟩ : ByteArray)) (⟨#[39]⟩ : ByteArray) (by rw [ByteArray.size_append, ByteArray.size_append]; show 4 + P.size + 1 + 1 ≤ _; omega)
  have add4 := addS ((⟨#[61, 86, 65, 76]⟩ : ByteArray) ++ P ++ (⟨#[32]⟩ : ByteArray) ++ (⟨#[39]⟩ : ByteArray)) X (by rw [ByteArray.size_append, ByteArray.size_append, ByteArray.size_append]; show 4 + P.size + 1 + 1 + X.size ≤ _; omega)
  clear hPz hXz
  have HV : Hid (evLine ⟨5, 2, flag, text, anchor, tag, at_, code⟩ = (⟨#[61, 86, 65, 76]⟩ : ByteArray) ++ P ++ (⟨#[32]⟩ : ByteArray) ++ (⟨#[39]⟩ : ByteArray) ++ X) := by
    show evLine ⟨5, 2, flag, text, anchor, tag, at_, code⟩ = (⟨#[61, 86, 65, 76]⟩ : ByteArray) ++ P ++ (⟨#[32]⟩ : ByteArray) ++ (⟨#[39]⟩ : ByteArray) ++ X
    simp [evLine, hP, hX, hxt]
  show Calls Tryd.prog 10 #[.agg #[.int .i64 5, .int .i64 2, .bool flag, .string text, .string anchor, .string tag, .int .i64 at_, .int .i64 code]] w fun r w' => r = .returned (.string (evLine ⟨5, 2, flag, text, anchor, tag, at_, code⟩)) ∧ Below w.heap.size w w'
  rw [HV.out]
  have HAL : Hid (Below w.heap.size w (w.alloc (.cells #[.int .i64 5, .int .i64 2, .bool flag, .string text, .string anchor, .string tag, .int .i64 at_, .int .i64 code] 33))) := (Below.refl _ w).alloc (Nat.le_refl _) _
  have HNEW : Hid ((w.alloc (.cells #[.int .i64 5, .int .i64 2, .bool flag, .string text, .string anchor, .string tag, .int .i64 at_, .int .i64 code] 33)).heap[w.heap.size]? = some (.cells #[.int .i64 5, .int .i64 2, .bool flag, .string text, .string anchor, .string tag, .int .i64 at_, .int .i64 code] 33 (0, 0))) := heap_alloc_new w _
  clear hok ht HV
  go_enter Tryd.func10, Tryd.ntmps10
  go_wp2_with fail
  refine (cO.out _).mono ?_
  rintro r w1 ⟨rfl, hb1⟩
  clear cO
  have HB1 : Hid (Below w.heap.size w w1) := HAL.out.trans (hb1.mono HAL.out.size)
  have hnew : w1.heap[w.heap.size]? = some (.cells #[.int .i64 5, .int .i64 2, .bool flag, .string text, .string anchor, .string tag, .int .i64 at_, .int .i64 code] 33 (0, 0)) := (hb1.block _ (by show w.heap.size < (w.heap.push _).size; simp)).trans HNEW.out
  have HNW : Hid (w1.heap[w.heap.size]? = some (.cells #[.int .i64 5, .int .i64 2, .bool flag, .string text, .string anchor, .string tag, .int .i64 at_, .int .i64 code] 33 (0, 0))) := hnew
  obtain ⟨q0, q1, q2, q3, q4, q5, q6, q7⟩ := ev_at hnew
  clear hb1 hnew HAL HNEW
  have hE1 := Bw.calls (w := w1) (fun w' _ => cP.out w')
  have hE2 := Bw.calls (w := w1) (fun w' _ => cX.out w')
  have hne := Bw.some w1
  have HR : Hid (∀ m : Bw w1, m.val.heap[w.heap.size]? = some (.cells #[.int .i64 5, .int .i64 2, .bool flag, .string text, .string anchor, .string tag, .int .i64 at_, .int .i64 code] 33 (0, 0))) := fun m => (m.ok.block _ (Array.getElem?_eq_some_iff.1 HNW.out).1).trans HNW.out
  have d0 := fun m => (ev_at (HR.out m)).1
  have d1 := fun m => (ev_at (HR.out m)).2.1
  have d2 := fun m => (ev_at (HR.out m)).2.2.1
  have d3 := fun m => (ev_at (HR.out m)).2.2.2.1
  have d4 := fun m => (ev_at (HR.out m)).2.2.2.2.1
  have d5 := fun m => (ev_at (HR.out m)).2.2.2.2.2.1
  have d6 := fun m => (ev_at (HR.out m)).2.2.2.2.2.2.1
  have d7 := fun m => (ev_at (HR.out m)).2.2.2.2.2.2.2
  clear cP cX
  go_wp2_with fail
  refine wp_region_bw (w0 := w1) (by kernel_rfl) (by kernel_rfl) (Below.refl _ _) ?_
  repeat (go_big_quiet_step (first | (go_at_call 18; exact hE1 _) | (go_at_call 19; exact hE2 _)))
  refine wpQuiet_nil ?_
  rintro _ ⟨m, rfl⟩
  have hB2 : Below w.heap.size w m.val := HB1.out.trans (m.ok.mono HB1.out.size)
  generalize m.val = w2 at *
  clear d0 d1 d2 d3 d4 d5 d6 d7 hE1 hE2 hne q0 q1 q2 q3 q4 q5 q6 q7
  go_wp2_with fail
  go_ret
  exact ⟨rfl, hB2⟩
set_option linter.unusedSimpArgs false in
set_option maxHeartbeats 8000000 in
theorem tx_53 (flag : Bool) (text anchor tag : ByteArray) (at_ code : Int) (w : World) (ht : text.size ≤ 1048576 ∧ anchor.size ≤ 1048576 ∧ tag.size ≤ 1048576)  (hok : evOk ⟨5, 3, flag, text, anchor, tag, at_, code⟩ = true) :
    Calls Tryd.prog 10 #[.agg (Ev.row ⟨5, 3, flag, text, anchor, tag, at_, code⟩)] w fun r w' => r = .returned (.string (evLine ⟨5, 3, flag, text, anchor, tag, at_, code⟩)) ∧ Below w.heap.size w w' := by
  have cO : Hid (∀ w, Calls Tryd.prog 17 #[.agg #[.int .i64 5, .int .i64 3, .bool flag, .string text, .string anchor, .string tag, .int .i64 at_, .int .i64 code]] w fun r w' => r = .returned (.bool true) ∧ Below w.heap.size w w') := fun w => spec_eventOk ⟨5, 3, flag, text, anchor, tag, at_, code⟩ w ⟨by have := ht.1; unfold mx; show text.size ≤ _; omega, by have := ht.2.1; unfold mx; show anchor.size ≤ _; omega, by have := ht.2.2; unfold mx; show tag.size ≤ _; omega⟩ true hok
  obtain ⟨P, hP⟩ : ∃ P, propsB ⟨5, 3, flag, text, anchor, tag, at_, code⟩ = P := ⟨_, rfl⟩
  have hPz : P.size ≤ 3000000 := by
    have h1 := prA_size anchor
    have h2 := prT_size (prA anchor) tag
    have h3 := ht.2.1
    have h4 := ht.2.2
    rw [← hP]
    show (prT (prA anchor) tag).size ≤ _
    omega
  have cP : Hid (∀ w, Calls Tryd.prog 18 #[.agg #[.int .i64 5, .int .i64 3, .bool flag, .string text, .string anchor, .string tag, .int .i64 at_, .int .i64 code]] w fun r w' => r = .returned (.string P) ∧ Below w.heap.size w w') := fun w => props_any ⟨5, 3, flag, text, anchor, tag, at_, code⟩ w ht.2.1 ht.2.2 P hP
  obtain ⟨X, hX⟩ : ∃ X, escS text = X := ⟨_, rfl⟩
  have hXz : X.size ≤ 2097152 := by rw [← hX]; have := escS_size text; have := ht.1; omega
  have cX : Hid (∀ w, Calls Tryd.prog 19 #[.string text] w fun r w' => r = .returned (.string X) ∧ Below w.heap.size w w') := fun w => spec_escape text w ht.1 X hX
  have hxt : (⟨#[32, 58, 39, 34, 124, 62]⟩ : ByteArray).extract 3 4 = (⟨#[34]⟩ : ByteArray) := by rfl
  have add1 := addS (⟨#[61, 86, 65, 76]⟩ : ByteArray) P (by show 4 + P.size ≤ _; omega)
  have add2 := addS ((⟨#[61, 86, 65, 76]⟩ : ByteArray) ++ P) (⟨#[32]⟩ : ByteArray) (by rw [ByteArray.size_append]; show 4 + P.size + 1 ≤ _; omega)
  have add3 := addS ((⟨#[61, 86, 65, 76]⟩ : ByteArray) ++ P ++ (⟨#[32]⟩ : ByteArray)) (⟨#[34]⟩ : ByteArray) (by rw [ByteArray.size_append, ByteArray.size_append]; show 4 + P.size + 1 + 1 ≤ _; omega)
  have add4 := addS ((⟨#[61, 86, 65, 76]⟩ : ByteArray) ++ P ++ (⟨#[32]⟩ : ByteArray) ++ (⟨#[34]⟩ : ByteArray)) X (by rw [ByteArray.size_append, ByteArray.size_append, ByteArray.size_append]; show 4 + P.size + 1 + 1 + X.size ≤ _; omega)
  clear hPz hXz
  have HV : Hid (evLine ⟨5, 3, flag, text, anchor, tag, at_, code⟩ = (⟨#[61, 86, 65, 76]⟩ : ByteArray) ++ P ++ (⟨#[32]⟩ : ByteArray) ++ (⟨#[34]⟩ : ByteArray) ++ X) := by
    show evLine ⟨5, 3, flag, text, anchor, tag, at_, code⟩ = (⟨#[61, 86, 65, 76]⟩ : ByteArray) ++ P ++ (⟨#[32]⟩ : ByteArray) ++ (⟨#[34]⟩ : ByteArray) ++ X
    simp [evLine, hP, hX, hxt]
  show Calls Tryd.prog 10 #[.agg #[.int .i64 5, .int .i64 3, .bool flag, .string text, .string anchor, .string tag, .int .i64 at_, .int .i64 code]] w fun r w' => r = .returned (.string (evLine ⟨5, 3, flag, text, anchor, tag, at_, code⟩)) ∧ Below w.heap.size w w'
  rw [HV.out]
  have HAL : Hid (Below w.heap.size w (w.alloc (.cells #[.int .i64 5, .int .i64 3, .bool flag, .string text, .string anchor, .string tag, .int .i64 at_, .int .i64 code] 33))) := (Below.refl _ w).alloc (Nat.le_refl _) _
  have HNEW : Hid ((w.alloc (.cells #[.int .i64 5, .int .i64 3, .bool flag, .string text, .string anchor, .string tag, .int .i64 at_, .int .i64 code] 33)).heap[w.heap.size]? = some (.cells #[.int .i64 5, .int .i64 3, .bool flag, .string text, .string anchor, .string tag, .int .i64 at_, .int .i64 code] 33 (0, 0))) := heap_alloc_new w _
  clear hok ht HV
  go_enter Tryd.func10, Tryd.ntmps10
  go_wp2_with fail
  refine (cO.out _).mono ?_
  rintro r w1 ⟨rfl, hb1⟩
  clear cO
  have HB1 : Hid (Below w.heap.size w w1) := HAL.out.trans (hb1.mono HAL.out.size)
  have hnew : w1.heap[w.heap.size]? = some (.cells #[.int .i64 5, .int .i64 3, .bool flag, .string text, .string anchor, .string tag, .int .i64 at_, .int .i64 code] 33 (0, 0)) := (hb1.block _ (by show w.heap.size < (w.heap.push _).size; simp)).trans HNEW.out
  have HNW : Hid (w1.heap[w.heap.size]? = some (.cells #[.int .i64 5, .int .i64 3, .bool flag, .string text, .string anchor, .string tag, .int .i64 at_, .int .i64 code] 33 (0, 0))) := hnew
  obtain ⟨q0, q1, q2, q3, q4, q5, q6, q7⟩ := ev_at hnew
  clear hb1 hnew HAL HNEW
  have hE1 := Bw.calls (w := w1) (fun w' _ => cP.out w')
  have hE2 := Bw.calls (w := w1) (fun w' _ => cX.out w')
  have hne := Bw.some w1
  have HR : Hid (∀ m : Bw w1, m.val.heap[w.heap.size]? = some (.cells #[.int .i64 5, .int .i64 3, .bool flag, .string text, .string anchor, .string tag, .int .i64 at_, .int .i64 code] 33 (0, 0))) := fun m => (m.ok.block _ (Array.getElem?_eq_some_iff.1 HNW.out).1).trans HNW.out
  have d0 := fun m => (ev_at (HR.out m)).1
  have d1 := fun m => (ev_at (HR.out m)).2.1
  have d2 := fun m => (ev_at (HR.out m)).2.2.1
  have d3 := fun m => (ev_at (HR.out m)).2.2.2.1
  have d4 := fun m => (ev_at (HR.out m)).2.2.2.2.1
  have d5 := fun m => (ev_at (HR.out m)).2.2.2.2.2.1
  have d6 := fun m => (ev_at (HR.out m)).2.2.2.2.2.2.1
  have d7 := fun m => (ev_at (HR.out m)).2.2.2.2.2.2.2
  clear cP cX
  go_wp2_with fail
  refine wp_region_bw (w0 := w1) (by kernel_rfl) (by kernel_rfl) (Below.refl _ _) ?_
  repeat (go_big_quiet_step (first | (go_at_call 18; exact hE1 _) | (go_at_call 19; exact hE2 _)))
  refine wpQuiet_nil ?_
  rintro _ ⟨m, rfl⟩
  have hB2 : Below w.heap.size w m.val := HB1.out.trans (m.ok.mono HB1.out.size)
  generalize m.val = w2 at *
  clear d0 d1 d2 d3 d4 d5 d6 d7 hE1 hE2 hne q0 q1 q2 q3 q4 q5 q6 q7
  go_wp2_with fail
  go_ret
  exact ⟨rfl, hB2⟩
set_option linter.unusedSimpArgs false in
set_option maxHeartbeats 8000000 in
theorem tx_54 (flag : Bool) (text anchor tag : ByteArray) (at_ code : Int) (w : World) (ht : text.size ≤ 1048576 ∧ anchor.size ≤ 1048576 ∧ tag.size ≤ 1048576)  (hok : evOk ⟨5, 4, flag, text, anchor, tag, at_, code⟩ = true) :
    Calls Tryd.prog 10 #[.agg (Ev.row ⟨5, 4, flag, text, anchor, tag, at_, code⟩)] w fun r w' => r = .returned (.string (evLine ⟨5, 4, flag, text, anchor, tag, at_, code⟩)) ∧ Below w.heap.size w w' := by
  have cO : Hid (∀ w, Calls Tryd.prog 17 #[.agg #[.int .i64 5, .int .i64 4, .bool flag, .string text, .string anchor, .string tag, .int .i64 at_, .int .i64 code]] w fun r w' => r = .returned (.bool true) ∧ Below w.heap.size w w') := fun w => spec_eventOk ⟨5, 4, flag, text, anchor, tag, at_, code⟩ w ⟨by have := ht.1; unfold mx; show text.size ≤ _; omega, by have := ht.2.1; unfold mx; show anchor.size ≤ _; omega, by have := ht.2.2; unfold mx; show tag.size ≤ _; omega⟩ true hok
  obtain ⟨P, hP⟩ : ∃ P, propsB ⟨5, 4, flag, text, anchor, tag, at_, code⟩ = P := ⟨_, rfl⟩
  have hPz : P.size ≤ 3000000 := by
    have h1 := prA_size anchor
    have h2 := prT_size (prA anchor) tag
    have h3 := ht.2.1
    have h4 := ht.2.2
    rw [← hP]
    show (prT (prA anchor) tag).size ≤ _
    omega
  have cP : Hid (∀ w, Calls Tryd.prog 18 #[.agg #[.int .i64 5, .int .i64 4, .bool flag, .string text, .string anchor, .string tag, .int .i64 at_, .int .i64 code]] w fun r w' => r = .returned (.string P) ∧ Below w.heap.size w w') := fun w => props_any ⟨5, 4, flag, text, anchor, tag, at_, code⟩ w ht.2.1 ht.2.2 P hP
  obtain ⟨X, hX⟩ : ∃ X, escS text = X := ⟨_, rfl⟩
  have hXz : X.size ≤ 2097152 := by rw [← hX]; have := escS_size text; have := ht.1; omega
  have cX : Hid (∀ w, Calls Tryd.prog 19 #[.string text] w fun r w' => r = .returned (.string X) ∧ Below w.heap.size w w') := fun w => spec_escape text w ht.1 X hX
  have hxt : (⟨#[32, 58, 39, 34, 124, 62]⟩ : ByteArray).extract 4 5 = (⟨#[124]⟩ : ByteArray) := by rfl
  have add1 := addS (⟨#[61, 86, 65, 76]⟩ : ByteArray) P (by show 4 + P.size ≤ _; omega)
  have add2 := addS ((⟨#[61, 86, 65, 76]⟩ : ByteArray) ++ P) (⟨#[32]⟩ : ByteArray) (by rw [ByteArray.size_append]; show 4 + P.size + 1 ≤ _; omega)
  have add3 := addS ((⟨#[61, 86, 65, 76]⟩ : ByteArray) ++ P ++ (⟨#[32]⟩ : ByteArray)) (⟨#[124]⟩ : ByteArray) (by rw [ByteArray.size_append, ByteArray.size_append]; show 4 + P.size + 1 + 1 ≤ _; omega)
  have add4 := addS ((⟨#[61, 86, 65, 76]⟩ : ByteArray) ++ P ++ (⟨#[32]⟩ : ByteArray) ++ (⟨#[124]⟩ : ByteArray)) X (by rw [ByteArray.size_append, ByteArray.size_append, ByteArray.size_append]; show 4 + P.size + 1 + 1 + X.size ≤ _; omega)
  clear hPz hXz
  have HV : Hid (evLine ⟨5, 4, flag, text, anchor, tag, at_, code⟩ = (⟨#[61, 86, 65, 76]⟩ : ByteArray) ++ P ++ (⟨#[32]⟩ : ByteArray) ++ (⟨#[124]⟩ : ByteArray) ++ X) := by
    show evLine ⟨5, 4, flag, text, anchor, tag, at_, code⟩ = (⟨#[61, 86, 65, 76]⟩ : ByteArray) ++ P ++ (⟨#[32]⟩ : ByteArray) ++ (⟨#[124]⟩ : ByteArray) ++ X
    simp [evLine, hP, hX, hxt]
  show Calls Tryd.prog 10 #[.agg #[.int .i64 5, .int .i64 4, .bool flag, .string text, .string anchor, .string tag, .int .i64 at_, .int .i64 code]] w fun r w' => r = .returned (.string (evLine ⟨5, 4, flag, text, anchor, tag, at_, code⟩)) ∧ Below w.heap.size w w'
  rw [HV.out]
  have HAL : Hid (Below w.heap.size w (w.alloc (.cells #[.int .i64 5, .int .i64 4, .bool flag, .string text, .string anchor, .string tag, .int .i64 at_, .int .i64 code] 33))) := (Below.refl _ w).alloc (Nat.le_refl _) _
  have HNEW : Hid ((w.alloc (.cells #[.int .i64 5, .int .i64 4, .bool flag, .string text, .string anchor, .string tag, .int .i64 at_, .int .i64 code] 33)).heap[w.heap.size]? = some (.cells #[.int .i64 5, .int .i64 4, .bool flag, .string text, .string anchor, .string tag, .int .i64 at_, .int .i64 code] 33 (0, 0))) := heap_alloc_new w _
  clear hok ht HV
  go_enter Tryd.func10, Tryd.ntmps10
  go_wp2_with fail
  refine (cO.out _).mono ?_
  rintro r w1 ⟨rfl, hb1⟩
  clear cO
  have HB1 : Hid (Below w.heap.size w w1) := HAL.out.trans (hb1.mono HAL.out.size)
  have hnew : w1.heap[w.heap.size]? = some (.cells #[.int .i64 5, .int .i64 4, .bool flag, .string text, .string anchor, .string tag, .int .i64 at_, .int .i64 code] 33 (0, 0)) := (hb1.block _ (by show w.heap.size < (w.heap.push _).size; simp)).trans HNEW.out
  have HNW : Hid (w1.heap[w.heap.size]? = some (.cells #[.int .i64 5, .int .i64 4, .bool flag, .string text, .string anchor, .string tag, .int .i64 at_, .int .i64 code] 33 (0, 0))) := hnew
  obtain ⟨q0, q1, q2, q3, q4, q5, q6, q7⟩ := ev_at hnew
  clear hb1 hnew HAL HNEW
  have hE1 := Bw.calls (w := w1) (fun w' _ => cP.out w')
  have hE2 := Bw.calls (w := w1) (fun w' _ => cX.out w')
  have hne := Bw.some w1
  have HR : Hid (∀ m : Bw w1, m.val.heap[w.heap.size]? = some (.cells #[.int .i64 5, .int .i64 4, .bool flag, .string text, .string anchor, .string tag, .int .i64 at_, .int .i64 code] 33 (0, 0))) := fun m => (m.ok.block _ (Array.getElem?_eq_some_iff.1 HNW.out).1).trans HNW.out
  have d0 := fun m => (ev_at (HR.out m)).1
  have d1 := fun m => (ev_at (HR.out m)).2.1
  have d2 := fun m => (ev_at (HR.out m)).2.2.1
  have d3 := fun m => (ev_at (HR.out m)).2.2.2.1
  have d4 := fun m => (ev_at (HR.out m)).2.2.2.2.1
  have d5 := fun m => (ev_at (HR.out m)).2.2.2.2.2.1
  have d6 := fun m => (ev_at (HR.out m)).2.2.2.2.2.2.1
  have d7 := fun m => (ev_at (HR.out m)).2.2.2.2.2.2.2
  clear cP cX
  go_wp2_with fail
  refine wp_region_bw (w0 := w1) (by kernel_rfl) (by kernel_rfl) (Below.refl _ _) ?_
  repeat (go_big_quiet_step (first | (go_at_call 18; exact hE1 _) | (go_at_call 19; exact hE2 _)))
  refine wpQuiet_nil ?_
  rintro _ ⟨m, rfl⟩
  have hB2 : Below w.heap.size w m.val := HB1.out.trans (m.ok.mono HB1.out.size)
  generalize m.val = w2 at *
  clear d0 d1 d2 d3 d4 d5 d6 d7 hE1 hE2 hne q0 q1 q2 q3 q4 q5 q6 q7
  go_wp2_with fail
  go_ret
  exact ⟨rfl, hB2⟩
set_option linter.unusedSimpArgs false in
set_option maxHeartbeats 8000000 in
theorem tx_55 (flag : Bool) (text anchor tag : ByteArray) (at_ code : Int) (w : World) (ht : text.size ≤ 1048576 ∧ anchor.size ≤ 1048576 ∧ tag.size ≤ 1048576)  (hok : evOk ⟨5, 5, flag, text, anchor, tag, at_, code⟩ = true) :
    Calls Tryd.prog 10 #[.agg (Ev.row ⟨5, 5, flag, text, anchor, tag, at_, code⟩)] w fun r w' => r = .returned (.string (evLine ⟨5, 5, flag, text, anchor, tag, at_, code⟩)) ∧ Below w.heap.size w w' := by
  have cO : Hid (∀ w, Calls Tryd.prog 17 #[.agg #[.int .i64 5, .int .i64 5, .bool flag, .string text, .string anchor, .string tag, .int .i64 at_, .int .i64 code]] w fun r w' => r = .returned (.bool true) ∧ Below w.heap.size w w') := fun w => spec_eventOk ⟨5, 5, flag, text, anchor, tag, at_, code⟩ w ⟨by have := ht.1; unfold mx; show text.size ≤ _; omega, by have := ht.2.1; unfold mx; show anchor.size ≤ _; omega, by have := ht.2.2; unfold mx; show tag.size ≤ _; omega⟩ true hok
  obtain ⟨P, hP⟩ : ∃ P, propsB ⟨5, 5, flag, text, anchor, tag, at_, code⟩ = P := ⟨_, rfl⟩
  have hPz : P.size ≤ 3000000 := by
    have h1 := prA_size anchor
    have h2 := prT_size (prA anchor) tag
    have h3 := ht.2.1
    have h4 := ht.2.2
    rw [← hP]
    show (prT (prA anchor) tag).size ≤ _
    omega
  have cP : Hid (∀ w, Calls Tryd.prog 18 #[.agg #[.int .i64 5, .int .i64 5, .bool flag, .string text, .string anchor, .string tag, .int .i64 at_, .int .i64 code]] w fun r w' => r = .returned (.string P) ∧ Below w.heap.size w w') := fun w => props_any ⟨5, 5, flag, text, anchor, tag, at_, code⟩ w ht.2.1 ht.2.2 P hP
  obtain ⟨X, hX⟩ : ∃ X, escS text = X := ⟨_, rfl⟩
  have hXz : X.size ≤ 2097152 := by rw [← hX]; have := escS_size text; have := ht.1; omega
  have cX : Hid (∀ w, Calls Tryd.prog 19 #[.string text] w fun r w' => r = .returned (.string X) ∧ Below w.heap.size w w') := fun w => spec_escape text w ht.1 X hX
  have hxt : (⟨#[32, 58, 39, 34, 124, 62]⟩ : ByteArray).extract 5 6 = (⟨#[62]⟩ : ByteArray) := by rfl
  have add1 := addS (⟨#[61, 86, 65, 76]⟩ : ByteArray) P (by show 4 + P.size ≤ _; omega)
  have add2 := addS ((⟨#[61, 86, 65, 76]⟩ : ByteArray) ++ P) (⟨#[32]⟩ : ByteArray) (by rw [ByteArray.size_append]; show 4 + P.size + 1 ≤ _; omega)
  have add3 := addS ((⟨#[61, 86, 65, 76]⟩ : ByteArray) ++ P ++ (⟨#[32]⟩ : ByteArray)) (⟨#[62]⟩ : ByteArray) (by rw [ByteArray.size_append, ByteArray.size_append]; show 4 + P.size + 1 + 1 ≤ _; omega)
  have add4 := addS ((⟨#[61, 86, 65, 76]⟩ : ByteArray) ++ P ++ (⟨#[32]⟩ : ByteArray) ++ (⟨#[62]⟩ : ByteArray)) X (by rw [ByteArray.size_append, ByteArray.size_append, ByteArray.size_append]; show 4 + P.size + 1 + 1 + X.size ≤ _; omega)
  clear hPz hXz
  have HV : Hid (evLine ⟨5, 5, flag, text, anchor, tag, at_, code⟩ = (⟨#[61, 86, 65, 76]⟩ : ByteArray) ++ P ++ (⟨#[32]⟩ : ByteArray) ++ (⟨#[62]⟩ : ByteArray) ++ X) := by
    show evLine ⟨5, 5, flag, text, anchor, tag, at_, code⟩ = (⟨#[61, 86, 65, 76]⟩ : ByteArray) ++ P ++ (⟨#[32]⟩ : ByteArray) ++ (⟨#[62]⟩ : ByteArray) ++ X
    simp [evLine, hP, hX, hxt]
  show Calls Tryd.prog 10 #[.agg #[.int .i64 5, .int .i64 5, .bool flag, .string text, .string anchor, .string tag, .int .i64 at_, .int .i64 code]] w fun r w' => r = .returned (.string (evLine ⟨5, 5, flag, text, anchor, tag, at_, code⟩)) ∧ Below w.heap.size w w'
  rw [HV.out]
  have HAL : Hid (Below w.heap.size w (w.alloc (.cells #[.int .i64 5, .int .i64 5, .bool flag, .string text, .string anchor, .string tag, .int .i64 at_, .int .i64 code] 33))) := (Below.refl _ w).alloc (Nat.le_refl _) _
  have HNEW : Hid ((w.alloc (.cells #[.int .i64 5, .int .i64 5, .bool flag, .string text, .string anchor, .string tag, .int .i64 at_, .int .i64 code] 33)).heap[w.heap.size]? = some (.cells #[.int .i64 5, .int .i64 5, .bool flag, .string text, .string anchor, .string tag, .int .i64 at_, .int .i64 code] 33 (0, 0))) := heap_alloc_new w _
  clear hok ht HV
  go_enter Tryd.func10, Tryd.ntmps10
  go_wp2_with fail
  refine (cO.out _).mono ?_
  rintro r w1 ⟨rfl, hb1⟩
  clear cO
  have HB1 : Hid (Below w.heap.size w w1) := HAL.out.trans (hb1.mono HAL.out.size)
  have hnew : w1.heap[w.heap.size]? = some (.cells #[.int .i64 5, .int .i64 5, .bool flag, .string text, .string anchor, .string tag, .int .i64 at_, .int .i64 code] 33 (0, 0)) := (hb1.block _ (by show w.heap.size < (w.heap.push _).size; simp)).trans HNEW.out
  have HNW : Hid (w1.heap[w.heap.size]? = some (.cells #[.int .i64 5, .int .i64 5, .bool flag, .string text, .string anchor, .string tag, .int .i64 at_, .int .i64 code] 33 (0, 0))) := hnew
  obtain ⟨q0, q1, q2, q3, q4, q5, q6, q7⟩ := ev_at hnew
  clear hb1 hnew HAL HNEW
  have hE1 := Bw.calls (w := w1) (fun w' _ => cP.out w')
  have hE2 := Bw.calls (w := w1) (fun w' _ => cX.out w')
  have hne := Bw.some w1
  have HR : Hid (∀ m : Bw w1, m.val.heap[w.heap.size]? = some (.cells #[.int .i64 5, .int .i64 5, .bool flag, .string text, .string anchor, .string tag, .int .i64 at_, .int .i64 code] 33 (0, 0))) := fun m => (m.ok.block _ (Array.getElem?_eq_some_iff.1 HNW.out).1).trans HNW.out
  have d0 := fun m => (ev_at (HR.out m)).1
  have d1 := fun m => (ev_at (HR.out m)).2.1
  have d2 := fun m => (ev_at (HR.out m)).2.2.1
  have d3 := fun m => (ev_at (HR.out m)).2.2.2.1
  have d4 := fun m => (ev_at (HR.out m)).2.2.2.2.1
  have d5 := fun m => (ev_at (HR.out m)).2.2.2.2.2.1
  have d6 := fun m => (ev_at (HR.out m)).2.2.2.2.2.2.1
  have d7 := fun m => (ev_at (HR.out m)).2.2.2.2.2.2.2
  clear cP cX
  go_wp2_with fail
  refine wp_region_bw (w0 := w1) (by kernel_rfl) (by kernel_rfl) (Below.refl _ _) ?_
  repeat (go_big_quiet_step (first | (go_at_call 18; exact hE1 _) | (go_at_call 19; exact hE2 _)))
  refine wpQuiet_nil ?_
  rintro _ ⟨m, rfl⟩
  have hB2 : Below w.heap.size w m.val := HB1.out.trans (m.ok.mono HB1.out.size)
  generalize m.val = w2 at *
  clear d0 d1 d2 d3 d4 d5 d6 d7 hE1 hE2 hne q0 q1 q2 q3 q4 q5 q6 q7
  go_wp2_with fail
  go_ret
  exact ⟨rfl, hB2⟩
set_option linter.unusedSimpArgs false in
set_option maxHeartbeats 8000000 in
theorem tx_10 (style : Int) (flag : Bool) (text anchor tag : ByteArray) (at_ code : Int) (w : World) (ht : text.size ≤ 1048576 ∧ anchor.size ≤ 1048576 ∧ tag.size ≤ 1048576)  (hok : evOk ⟨10, style, flag, text, anchor, tag, at_, code⟩ = true) :
    Calls Tryd.prog 10 #[.agg (Ev.row ⟨10, style, flag, text, anchor, tag, at_, code⟩)] w fun r w' => r = .returned (.string (evLine ⟨10, style, flag, text, anchor, tag, at_, code⟩)) ∧ Below w.heap.size w w' := by
  have cO : Hid (∀ w, Calls Tryd.prog 17 #[.agg #[.int .i64 10, .int .i64 style, .bool flag, .string text, .string anchor, .string tag, .int .i64 at_, .int .i64 code]] w fun r w' => r = .returned (.bool true) ∧ Below w.heap.size w w') := fun w => spec_eventOk ⟨10, style, flag, text, anchor, tag, at_, code⟩ w ⟨by have := ht.1; unfold mx; show text.size ≤ _; omega, by have := ht.2.1; unfold mx; show anchor.size ≤ _; omega, by have := ht.2.2; unfold mx; show tag.size ≤ _; omega⟩ true hok
  obtain ⟨N1, hN1⟩ : ∃ N1, nt code = N1 := ⟨_, rfl⟩
  obtain ⟨N2, hN2⟩ : ∃ N2, nt at_ = N2 := ⟨_, rfl⟩
  have z1 : N1.size ≤ 20 := by rw [← hN1]; exact nt_size code
  have z2 : N2.size ≤ 20 := by rw [← hN2]; exact nt_size at_
  have c1 : Hid (∀ w, Calls Tryd.prog 20 #[.int .i64 code] w fun r w' => r = .returned (.string N1) ∧ Below w.heap.size w w') := fun w => by rw [← hN1]; exact spec_nt code w
  have c2 : Hid (∀ w, Calls Tryd.prog 20 #[.int .i64 at_] w fun r w' => r = .returned (.string N2) ∧ Below w.heap.size w w') := fun w => by rw [← hN2]; exact spec_nt at_ w
  have add1 := addS (⟨#[33, 70, 65, 85, 76, 84, 32]⟩ : ByteArray) N1 (by show 7 + N1.size ≤ _; omega)
  have add2 := addS ((⟨#[33, 70, 65, 85, 76, 84, 32]⟩ : ByteArray) ++ N1) (⟨#[32]⟩ : ByteArray) (by rw [ByteArray.size_append]; show 7 + N1.size + 1 ≤ _; omega)
  have add3 := addS ((⟨#[33, 70, 65, 85, 76, 84, 32]⟩ : ByteArray) ++ N1 ++ (⟨#[32]⟩ : ByteArray)) N2 (by rw [ByteArray.size_append, ByteArray.size_append]; show 7 + N1.size + 1 + N2.size ≤ _; omega)
  clear z1 z2
  have HV : Hid (evLine ⟨10, style, flag, text, anchor, tag, at_, code⟩ = (⟨#[33, 70, 65, 85, 76, 84, 32]⟩ : ByteArray) ++ N1 ++ (⟨#[32]⟩ : ByteArray) ++ N2) := by
    show evLine ⟨10, style, flag, text, anchor, tag, at_, code⟩ = (⟨#[33, 70, 65, 85, 76, 84, 32]⟩ : ByteArray) ++ N1 ++ (⟨#[32]⟩ : ByteArray) ++ N2
    simp [evLine, hN1, hN2]
  show Calls Tryd.prog 10 #[.agg #[.int .i64 10, .int .i64 style, .bool flag, .string text, .string anchor, .string tag, .int .i64 at_, .int .i64 code]] w fun r w' => r = .returned (.string (evLine ⟨10, style, flag, text, anchor, tag, at_, code⟩)) ∧ Below w.heap.size w w'
  rw [HV.out]
  have HAL : Hid (Below w.heap.size w (w.alloc (.cells #[.int .i64 10, .int .i64 style, .bool flag, .string text, .string anchor, .string tag, .int .i64 at_, .int .i64 code] 33))) := (Below.refl _ w).alloc (Nat.le_refl _) _
  have HNEW : Hid ((w.alloc (.cells #[.int .i64 10, .int .i64 style, .bool flag, .string text, .string anchor, .string tag, .int .i64 at_, .int .i64 code] 33)).heap[w.heap.size]? = some (.cells #[.int .i64 10, .int .i64 style, .bool flag, .string text, .string anchor, .string tag, .int .i64 at_, .int .i64 code] 33 (0, 0))) := heap_alloc_new w _
  clear hok ht HV
  go_enter Tryd.func10, Tryd.ntmps10
  go_wp2_with fail
  refine (cO.out _).mono ?_
  rintro r w1 ⟨rfl, hb1⟩
  clear cO
  have HB1 : Hid (Below w.heap.size w w1) := HAL.out.trans (hb1.mono HAL.out.size)
  have hnew : w1.heap[w.heap.size]? = some (.cells #[.int .i64 10, .int .i64 style, .bool flag, .string text, .string anchor, .string tag, .int .i64 at_, .int .i64 code] 33 (0, 0)) := (hb1.block _ (by show w.heap.size < (w.heap.push _).size; simp)).trans HNEW.out
  have HNW : Hid (w1.heap[w.heap.size]? = some (.cells #[.int .i64 10, .int .i64 style, .bool flag, .string text, .string anchor, .string tag, .int .i64 at_, .int .i64 code] 33 (0, 0))) := hnew
  obtain ⟨q0, q1, q2, q3, q4, q5, q6, q7⟩ := ev_at hnew
  clear hb1 hnew HAL HNEW
  have hE1 := Bw.calls (w := w1) (fun w' _ => c1.out w')
  have hE2 := Bw.calls (w := w1) (fun w' _ => c2.out w')
  have hne := Bw.some w1
  have HR : Hid (∀ m : Bw w1, m.val.heap[w.heap.size]? = some (.cells #[.int .i64 10, .int .i64 style, .bool flag, .string text, .string anchor, .string tag, .int .i64 at_, .int .i64 code] 33 (0, 0))) := fun m => (m.ok.block _ (Array.getElem?_eq_some_iff.1 HNW.out).1).trans HNW.out
  have d6 := fun m => (ev_at (HR.out m)).2.2.2.2.2.2.1
  have d7 := fun m => (ev_at (HR.out m)).2.2.2.2.2.2.2
  clear c1 c2
  go_wp2_with fail
  refine wp_region_bw (w0 := w1) (by kernel_rfl) (by kernel_rfl) (Below.refl _ _) ?_
  repeat (go_big_quiet_step (first | (go_at_call 20; with_reducible exact hE1 _) | (go_at_call 20; with_reducible exact hE2 _)))
  refine wpQuiet_nil ?_
  rintro _ ⟨m, rfl⟩
  have hB2 : Below w.heap.size w m.val := HB1.out.trans (m.ok.mono HB1.out.size)
  generalize m.val = w2 at *
  clear d6 d7 hE1 hE2 hne q0 q1 q2 q3 q4 q5 q6 q7
  go_wp2_with fail
  go_ret
  exact ⟨rfl, hB2⟩
theorem evOk_rng {e : Ev} (h : evOk e = true) : 1 ≤ e.kind ∧ e.kind ≤ 10 ∧ loK e.kind ≤ e.style ∧ e.style ≤ hiK e.kind := by
  unfold evOk at h
  split at h
  · cases h
  · rename_i h1
    exact ⟨by omega, by omega, by omega, by omega⟩
set_option maxHeartbeats 2000000 in
theorem tx_no (e : Ev) (w : World) (ht : e.text.size ≤ 1048576 ∧ e.anchor.size ≤ 1048576 ∧ e.tag.size ≤ 1048576) (hok : evOk e = false) :
    Calls Tryd.prog 10 #[.agg e.row] w fun r w' => r = .returned (.string ByteArray.empty) ∧ Below w.heap.size w w' := by
  have cO : Hid (∀ w, Calls Tryd.prog 17 #[.agg e.row] w fun r w' => r = .returned (.bool false) ∧ Below w.heap.size w w') := fun w => spec_eventOk e w ⟨by have := ht.1; unfold mx; omega, by have := ht.2.1; unfold mx; omega, by have := ht.2.2; unfold mx; omega⟩ false hok
  clear hok ht
  obtain ⟨kind, style, flag, text, anchor, tag, at_, code⟩ := e
  unfold Ev.row at cO ⊢
  have HAL : Hid (Below w.heap.size w (w.alloc (.cells #[.int .i64 kind, .int .i64 style, .bool flag, .string text, .string anchor, .string tag, .int .i64 at_, .int .i64 code] 33))) := (Below.refl _ w).alloc (Nat.le_refl _) _
  go_enter Tryd.func10, Tryd.ntmps10
  go_wp2_with fail
  refine (cO.out _).mono ?_
  rintro r w1 ⟨rfl, hb1⟩
  clear cO
  go_wp2_with fail
  go_ret
  exact ⟨rfl, HAL.out.trans (hb1.mono HAL.out.size)⟩
theorem spec_eventText (e : Ev) (w : World) (ht : e.text.size ≤ 1048576 ∧ e.anchor.size ≤ 1048576 ∧ e.tag.size ≤ 1048576) :
    Calls Tryd.prog 10 #[.agg e.row] w fun r w' => r = .returned (.string (evText e)) ∧ Below w.heap.size w w' := by
  cases hok : evOk e with
  | false =>
    rw [show evText e = ByteArray.empty from if_neg (by rw [hok]; simp)]
    exact tx_no e w ht hok
  | true =>
    rw [show evText e = evLine e from if_pos hok]
    obtain ⟨k1, k2, s1, s2⟩ := evOk_rng hok
    obtain ⟨kind, style, flag, text, anchor, tag, at_, code⟩ := e
    simp only at k1 k2 s1 s2 ht
    rcases (show kind = 1 ∨ kind = 2 ∨ kind = 3 ∨ kind = 4 ∨ kind = 5 ∨ kind = 6 ∨ kind = 7 ∨ kind = 8 ∨ kind = 9 ∨ kind = 10 by omega) with rfl | rfl | rfl | rfl | rfl | rfl | rfl | rfl | rfl | rfl
    · exact tx_1 style flag text anchor tag at_ code w ht hok
    · cases flag with
      | true => exact tx_2t style text anchor tag at_ code w ht hok
      | false => exact tx_2f style text anchor tag at_ code w ht hok
    · by_cases h6 : style = 6
      · subst h6
        exact tx_3f flag text anchor tag at_ code w ht hok
      · exact tx_3b style flag text anchor tag at_ code w ht h6 hok
    · by_cases h6 : style = 6
      · subst h6
        exact tx_4f flag text anchor tag at_ code w ht hok
      · exact tx_4b style flag text anchor tag at_ code w ht h6 hok
    · have e1 : loK 5 = 1 := rfl
      have e2 : hiK 5 = 5 := rfl
      rw [e1] at s1
      rw [e2] at s2
      rcases (show style = 1 ∨ style = 2 ∨ style = 3 ∨ style = 4 ∨ style = 5 by omega) with rfl | rfl | rfl | rfl | rfl
      · exact tx_51 flag text anchor tag at_ code w ht hok
      · exact tx_52 flag text anchor tag at_ code w ht hok
      · exact tx_53 flag text anchor tag at_ code w ht hok
      · exact tx_54 flag text anchor tag at_ code w ht hok
      · exact tx_55 flag text anchor tag at_ code w ht hok
    · exact tx_6 style flag text anchor tag at_ code w ht hok
    · exact tx_7 style flag text anchor tag at_ code w ht hok
    · cases flag with
      | true => exact tx_8t style text anchor tag at_ code w ht hok
      | false => exact tx_8f style text anchor tag at_ code w ht hok
    · exact tx_9 style flag text anchor tag at_ code w ht hok
    · exact tx_10 style flag text anchor tag at_ code w ht hok
end Go.Proofs.YtleajpkdikcfpalDoor
