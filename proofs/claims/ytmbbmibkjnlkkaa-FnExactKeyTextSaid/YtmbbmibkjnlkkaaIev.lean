/- The contract of impl.EventOk: an event is compared, as a struct, with what its kind names of it. -/
import Derived.Test.YtmbbmibkjnlkkaaIfl
import Derived.Test.YtmbbmibkjnlkkaaLev
import Derived.Deep.RegionHeld3
namespace Go.Proofs.Ytmbbmibkjnlkkaa
open Go.ChangeShapes Go.WideShapes Go.ChangeAt Go.RowKit
theorem cst {w w' : World} {a : Addr} {v : Value} (hb : Below w.heap.size w w') (h : w.cell? a = some v) : w'.cell? a = some v := (hb.cell (World.block_lt_of_cell? _ _ h)).trans h
theorem equalIn_ev (a0 a1 : Int) (a2 : Bool) (a3 a4 a5 : ByteArray) (a6 a7 : Int) (b0 b1 : Int) (b2 : Bool) (b3 b4 b5 : ByteArray) (b6 b7 : Int) (w : World) :
    (Op.equalIn 10000 38 (.agg #[.int .i64 a0, .int .i64 a1, .bool a2, .string a3, .string a4, .string a5, .int .i64 a6, .int .i64 a7]) (.agg #[.int .i64 b0, .int .i64 b1, .bool b2, .string b3, .string b4, .string b5, .int .i64 b6, .int .i64 b7])).run Try.prog w
      = .ok (a0 == b0 && (a1 == b1 && (a2 == b2 && (a3.toList == b3.toList && (a4.toList == b4.toList && (a5.toList == b5.toList && (a6 == b6 && a7 == b7))))))) w := by
  have hS : Try.prog.underlying 38 = some (.struct (Try.prog.fieldsOf 38)) := by kernel_rfl
  have hp : Try.prog.stoodInHeld 38 = false := by kernel_rfl
  rw [show (10000 : Nat) = 9999 + 1 from rfl, run_equalIn_agg w 9999 38 _ _ hS hp]
  simp only [Program.fieldsOf, Try.underlying38]
  go_simp
  by_cases h0 : a0 = b0
  case neg => simp [h0]
  by_cases h1 : a1 = b1
  case neg => simp [h0, h1]
  by_cases h2 : a2 = b2
  case neg => simp [h0, h1, h2]
  by_cases h3 : a3.toList = b3.toList
  case neg => simp [h0, h1, h2, h3]
  by_cases h4 : a4.toList = b4.toList
  case neg => simp [h0, h1, h2, h3, h4]
  by_cases h5 : a5.toList = b5.toList
  case neg => simp [h0, h1, h2, h3, h4, h5]
  by_cases h6 : a6 = b6
  case neg => simp [h0, h1, h2, h3, h4, h5, h6]
  by_cases h7 : a7 = b7
  case neg => simp [h0, h1, h2, h3, h4, h5, h6, h7]
  simp [h0, h1, h2, h3, h4, h5, h6, h7]
set_option maxHeartbeats 4000000 in
theorem evOk_t (kind style : Int) (flag : Bool) (text anchor tag : ByteArray) (at_ code : Int) (b0 b1 : Int) (b2 : Bool) (b3 b4 b5 : ByteArray) (b6 b7 : Int) (f : Bool) (w : World)
    (cN : Hid (∀ w, Calls Try.prog 59 #[.agg #[.int .i64 kind, .int .i64 style, .bool flag, .string text, .string anchor, .string tag, .int .i64 at_, .int .i64 code]] w fun r w' => r = .returned (.agg #[.int .i64 b0, .int .i64 b1, .bool b2, .string b3, .string b4, .string b5, .int .i64 b6, .int .i64 b7]) ∧ Below w.heap.size w w'))
    (cF : Hid (∀ w, Calls Try.prog 60 #[.agg #[.int .i64 kind, .int .i64 style, .bool flag, .string text, .string anchor, .string tag, .int .i64 at_, .int .i64 code]] w fun r w' => r = .returned (.bool f) ∧ Below w.heap.size w w'))
    (hE : ∀ w, (Op.equalIn 10000 38 (.agg #[.int .i64 kind, .int .i64 style, .bool flag, .string text, .string anchor, .string tag, .int .i64 at_, .int .i64 code]) (.agg #[.int .i64 b0, .int .i64 b1, .bool b2, .string b3, .string b4, .string b5, .int .i64 b6, .int .i64 b7])).run Try.prog w = .ok true w) :
    Calls Try.prog 51 #[.agg #[.int .i64 kind, .int .i64 style, .bool flag, .string text, .string anchor, .string tag, .int .i64 at_, .int .i64 code]] w fun r w' => r = .returned (.bool f) ∧ Below w.heap.size w w' := by
  have HAL : Hid (Below w.heap.size w (w.alloc (.cells #[.int .i64 kind, .int .i64 style, .bool flag, .string text, .string anchor, .string tag, .int .i64 at_, .int .i64 code] 38)).drew) := ((Below.refl _ w).alloc (Nat.le_refl _) _).drew
  go_enter Try.func51, Try.ntmps51
  go_wp2_with fail
  obtain ⟨q0, q1, q2, q3, q4, q5, q6, q7⟩ := ev_at (heap_alloc_new w (.cells #[.int .i64 kind, .int .i64 style, .bool flag, .string text, .string anchor, .string tag, .int .i64 at_, .int .i64 code] 38))
  go_region_held3 (fun V => (V.cell? ⟨w.heap.size, 0, none⟩ = some (.int .i64 kind) ∧ V.cell? ⟨w.heap.size, 1, none⟩ = some (.int .i64 style) ∧ V.cell? ⟨w.heap.size, 2, none⟩ = some (.bool flag) ∧ V.cell? ⟨w.heap.size, 3, none⟩ = some (.string text)) ∧ (V.cell? ⟨w.heap.size, 4, none⟩ = some (.string anchor) ∧ V.cell? ⟨w.heap.size, 5, none⟩ = some (.string tag) ∧ V.cell? ⟨w.heap.size, 6, none⟩ = some (.int .i64 at_) ∧ V.cell? ⟨w.heap.size, 7, none⟩ = some (.int .i64 code)))
    (first | exact ⟨⟨q0, q1, q2, q3⟩, q4, q5, q6, q7⟩ | exact ⟨⟨cst hb1 (by assumption), cst hb1 (by assumption), cst hb1 (by assumption), cst hb1 (by assumption)⟩, cst hb1 (by assumption), cst hb1 (by assumption), cst hb1 (by assumption), cst hb1 (by assumption)⟩ | exact ⟨⟨cst hb2 (cst hb1 (by assumption)), cst hb2 (cst hb1 (by assumption)), cst hb2 (cst hb1 (by assumption)), cst hb2 (cst hb1 (by assumption))⟩, cst hb2 (cst hb1 (by assumption)), cst hb2 (cst hb1 (by assumption)), cst hb2 (cst hb1 (by assumption)), cst hb2 (cst hb1 (by assumption))⟩ | go_keep)
    (first | (go_at_call 59; refine (cN.out _).mono ?_; rintro e w1 ⟨rfl, hb1⟩) | (go_at_call 60; refine (cF.out _).mono ?_; rintro e w2 ⟨rfl, hb2⟩))
  clear q0 q1 q2 q3 q4 q5 q6 q7 cN cF hE
  have HB1 : Hid (Below w.heap.size w w1) := HAL.out.trans (hb1.mono HAL.out.size)
  clear hb1
  go_wp2_with fail
  go_ret
  exact ⟨rfl, HB1.out.trans (hb2.mono HB1.out.size)⟩
set_option maxHeartbeats 4000000 in
theorem evOk_f (kind style : Int) (flag : Bool) (text anchor tag : ByteArray) (at_ code : Int) (b0 b1 : Int) (b2 : Bool) (b3 b4 b5 : ByteArray) (b6 b7 : Int) (w : World)
    (cN : Hid (∀ w, Calls Try.prog 59 #[.agg #[.int .i64 kind, .int .i64 style, .bool flag, .string text, .string anchor, .string tag, .int .i64 at_, .int .i64 code]] w fun r w' => r = .returned (.agg #[.int .i64 b0, .int .i64 b1, .bool b2, .string b3, .string b4, .string b5, .int .i64 b6, .int .i64 b7]) ∧ Below w.heap.size w w'))
    (hE : ∀ w, (Op.equalIn 10000 38 (.agg #[.int .i64 kind, .int .i64 style, .bool flag, .string text, .string anchor, .string tag, .int .i64 at_, .int .i64 code]) (.agg #[.int .i64 b0, .int .i64 b1, .bool b2, .string b3, .string b4, .string b5, .int .i64 b6, .int .i64 b7])).run Try.prog w = .ok false w) :
    Calls Try.prog 51 #[.agg #[.int .i64 kind, .int .i64 style, .bool flag, .string text, .string anchor, .string tag, .int .i64 at_, .int .i64 code]] w fun r w' => r = .returned (.bool false) ∧ Below w.heap.size w w' := by
  have HAL : Hid (Below w.heap.size w (w.alloc (.cells #[.int .i64 kind, .int .i64 style, .bool flag, .string text, .string anchor, .string tag, .int .i64 at_, .int .i64 code] 38)).drew) := ((Below.refl _ w).alloc (Nat.le_refl _) _).drew
  go_enter Try.func51, Try.ntmps51
  go_wp2_with fail
  go_region_with (go_at_call 59; refine (cN.out _).mono ?_; rintro e w1 ⟨rfl, hb1⟩; obtain ⟨q0, q1, q2, q3, q4, q5, q6, q7⟩ := ev_at ((hb1.block w.heap.size (show w.heap.size < (w.heap.push _).size by simp)).trans (heap_alloc_new w (.cells #[.int .i64 kind, .int .i64 style, .bool flag, .string text, .string anchor, .string tag, .int .i64 at_, .int .i64 code] 38))))
  all_goals (
    clear q0 q1 q2 q3 q4 q5 q6 q7 cN hE
    have HB1 : Hid (Below w.heap.size w w1) := HAL.out.trans (hb1.mono HAL.out.size)
    clear hb1
    go_wp2_with fail
    go_ret
    exact ⟨rfl, HB1.out⟩)
theorem eventOk_any (e : Ev) (w : World) (hs : e.text.size ≤ mx ∧ e.anchor.size ≤ mx ∧ e.tag.size ≤ mx) :
    Calls Try.prog 51 #[.agg e.row] w fun r w' => r = .returned (.bool (evOk e)) ∧ Below w.heap.size w w' := by
  have cN := fun w => named_any e w
  have cF := fun w => fields_any e w hs
  rw [← evOk_impl e]
  generalize hn : namedE e = n at *
  obtain ⟨kind, style, flag, text, anchor, tag, at_, code⟩ := e
  obtain ⟨b0, b1, b2, b3, b4, b5, b6, b7⟩ := n
  have hE := fun w => equalIn_ev kind style flag text anchor tag at_ code b0 b1 b2 b3 b4 b5 b6 b7 w
  have hq : eqEv ⟨kind, style, flag, text, anchor, tag, at_, code⟩ ⟨b0, b1, b2, b3, b4, b5, b6, b7⟩ = (kind == b0 && (style == b1 && (flag == b2 && (text.toList == b3.toList && (anchor.toList == b4.toList && (tag.toList == b5.toList && (at_ == b6 && code == b7))))))) := rfl
  rw [hq]
  generalize (kind == b0 && (style == b1 && (flag == b2 && (text.toList == b3.toList && (anchor.toList == b4.toList && (tag.toList == b5.toList && (at_ == b6 && code == b7))))))) = g at *
  cases g with
  | true =>
    rw [Bool.true_and]
    exact evOk_t kind style flag text anchor tag at_ code b0 b1 b2 b3 b4 b5 b6 b7 _ w cN cF hE
  | false =>
    rw [Bool.false_and]
    exact evOk_f kind style flag text anchor tag at_ code b0 b1 b2 b3 b4 b5 b6 b7 w cN hE
theorem implEo : ImplEo := fun e w ht _ => by
  unfold Ev.tot at ht
  exact eventOk_any e w ⟨by unfold mx; omega, by unfold mx; omega, by unfold mx; omega⟩
end Go.Proofs.Ytmbbmibkjnlkkaa
