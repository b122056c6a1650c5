/- The contracts of impl.nameOk and impl.propsOk. -/
import Derived.Test.YtmbbmibkjnlkkaaUnq
import Derived.Test.YtmbbmibkjnlkkaaEvl
import Derived.Test.YtmbbmibkjnlkkaaPev
namespace Go.Proofs.Ytmbbmibkjnlkkaa
open Go.ChangeShapes Go.WideShapes Go.ChangeAt Go.RowKit
def pSg (c : Nat) : Bool := pG c || pF6 c
theorem pSg_signs : SignsQ pSg ⟨#[32, 9, 10, 44, 91, 93, 123, 125]⟩ := by
  intro x hx
  show pSg x = [32, 9, 10, 44, 91, 93, 123, 125].contains x.toUInt8
  simp only [List.contains_cons, List.contains_nil, u8_eq hx, Bool.or_false]
  unfold pSg pG pF6
  simp only [Bool.or_assoc]
  rfl
set_option maxHeartbeats 2000000 in
theorem nameOk_any (s : ByteArray) (w : World) (hs : s.size ≤ mx) (b : Bool) (hb : nmOk s = b) :
    Calls Try.prog 67 #[.string s] w fun e w' => e = .returned (.bool b) ∧ Below w.heap.size w w' := by
  have hs' : s.size < 9223372036854775807 := by unfold mx at hs; omega
  by_cases h60 : s.size ≤ 60
  · have h60' : (s.size : Int) ≤ 60 := by omega
    obtain ⟨v, hv⟩ : ∃ v, fwd pNm s 0 = v := ⟨_, rfl⟩
    have cU : Hid (∀ w, Calls Try.prog 68 #[.string s, .int .i64 0, .string ⟨#[32, 9, 10, 44, 91, 93, 123, 125]⟩] w fun e w' => e = .returned (.int .i64 (v : Int)) ∧ Below w.heap.size w w') := fun w => until_nat s _ 0 v pSg pNm w hs (Nat.zero_le _) pSg_signs (fun _ => rfl) hv
    have HB : Hid ((((v : Int) == (s.size : Int)) : Bool) = b) := by
      show (((v : Int) == (s.size : Int)) : Bool) = b
      rw [← hb]
      unfold nmOk
      rw [hv, decide_eq_true h60, Bool.and_true, Bool.eq_iff_iff, beq_iff_eq, decide_eq_true_iff]
      omega
    clear hb hv hs
    go_enter Try.func67, Try.ntmps67
    go_wp2_with fail
    refine (cU.out _).mono ?_
    rintro e w1 ⟨rfl, hb1⟩
    clear cU
    go_wp2_with fail
    go_ret
    exact ⟨ret_bool HB.out, hb1⟩
  · have h60' : ¬ (s.size : Int) ≤ 60 := by omega
    obtain rfl : false = b := by rw [← hb]; unfold nmOk; rw [decide_eq_false h60, Bool.and_false]
    clear hb hs
    go_enter Try.func67, Try.ntmps67
    go_wp2_with fail
    go_ret
    exact ⟨rfl, Below.refl _ _⟩
set_option maxHeartbeats 2000000 in
theorem propsOk_any (e : Ev) (w : World) (ha : e.anchor.size ≤ mx) (ht : e.tag.size ≤ mx) (b : Bool) (hb : prOk e = b) :
    Calls Try.prog 66 #[.agg e.row] w fun r w' => r = .returned (.bool b) ∧ Below w.heap.size w w' := by
  obtain ⟨kind, style, flag, text, anchor, tag, at_, code⟩ := e
  have ht' : tag.size < 9223372036854775807 := by unfold mx at ht; have : tag.size ≤ _ := ht; omega
  obtain ⟨m, hm⟩ : ∃ m, nmOk anchor = m := ⟨_, rfl⟩
  have cN : Hid (∀ w, Calls Try.prog 67 #[.string anchor] w fun e w' => e = .returned (.bool m) ∧ Below w.heap.size w w') := fun w => nameOk_any anchor w ha m hm
  have hb' : (m && decide (tag.size ≤ 120)) = b := by rw [← hb, ← hm]; rfl
  clear hb ha ht hm
  show Calls Try.prog 66 #[.agg #[.int .i64 kind, .int .i64 style, .bool flag, .string text, .string anchor, .string tag, .int .i64 at_, .int .i64 code]] w fun r w' => r = .returned (.bool b) ∧ Below w.heap.size w w'
  have HAL : Hid (Below w.heap.size w (w.alloc (.cells #[.int .i64 kind, .int .i64 style, .bool flag, .string text, .string anchor, .string tag, .int .i64 at_, .int .i64 code] 38))) := (Below.refl _ w).alloc (Nat.le_refl _) _
  have HNEW : Hid ((w.alloc (.cells #[.int .i64 kind, .int .i64 style, .bool flag, .string text, .string anchor, .string tag, .int .i64 at_, .int .i64 code] 38)).heap[w.heap.size]? = some (.cells #[.int .i64 kind, .int .i64 style, .bool flag, .string text, .string anchor, .string tag, .int .i64 at_, .int .i64 code] 38 (0, 0))) := heap_alloc_new w _
  cases m with
  | false =>
    obtain rfl : false = b := by rw [← hb']; rfl
    clear hb'
    go_enter Try.func66, Try.ntmps66
    go_wp2_with fail
    refine (cN.out _).mono ?_
    rintro e w1 ⟨rfl, hb1⟩
    clear cN
    go_wp2_with fail
    go_ret
    exact ⟨rfl, HAL.out.trans (hb1.mono HAL.out.size)⟩
  | true =>
    have HB : Hid (decide ((tag.size : Int) ≤ 120) = b) := by
      show decide ((tag.size : Int) ≤ 120) = b
      rw [← hb', Bool.true_and, decide_eq_decide]
      omega
    clear hb'
    go_enter Try.func66, Try.ntmps66
    go_wp2_with fail
    refine (cN.out _).mono ?_
    rintro e w1 ⟨rfl, hb1⟩
    clear cN
    have hnew : w1.heap[w.heap.size]? = some (.cells #[.int .i64 kind, .int .i64 style, .bool flag, .string text, .string anchor, .string tag, .int .i64 at_, .int .i64 code] 38 (0, 0)) := (hb1.block _ (by show w.heap.size < (w.heap.push _).size; simp)).trans HNEW.out
    obtain ⟨q0, q1, q2, q3, q4, q5, q6, q7⟩ := ev_at hnew
    have HB1 : Hid (Below w.heap.size w w1) := HAL.out.trans (hb1.mono HAL.out.size)
    clear hnew HNEW HAL hb1
    go_wp2_with fail
    go_ret
    exact ⟨ret_bool HB.out, HB1.out⟩
end Go.Proofs.Ytmbbmibkjnlkkaa
