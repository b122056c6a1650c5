/- Several texts in one: Iev Iwb Iwt. -/
import Derived.Test.YtkdlakcmhdiojaaIfl
import Derived.Test.YtkdlakcmhdiojaaZqas
import Derived.Deep.RegionHeld3
import Derived.Test.YtkdlakcmhdiojaaZqal
import Derived.BigRegion
/- The contract of impl.EventOk: an event is compared, as a struct, with what its kind names of it. -/
namespace Go.Proofs.Ytkdlakcmhdiojaa
open Go.ChangeShapes Go.WideShapes Go.ChangeAt Go.RowKit
theorem cst {w w' : World} {a : Addr} {v : Value} (hb : Below w.heap.size w w') (h : w.cell? a = some v) : w'.cell? a = some v := (hb.cell (World.block_lt_of_cell? _ _ h)).trans h
theorem equalIn_ev (a0 a1 : Int) (a2 : Bool) (a3 a4 a5 : ByteArray) (a6 a7 : Int) (b0 b1 : Int) (b2 : Bool) (b3 b4 b5 : ByteArray) (b6 b7 : Int) (w : World) :
    (Op.equalIn 10000 47 (.agg #[.int .i64 a0, .int .i64 a1, .bool a2, .string a3, .string a4, .string a5, .int .i64 a6, .int .i64 a7]) (.agg #[.int .i64 b0, .int .i64 b1, .bool b2, .string b3, .string b4, .string b5, .int .i64 b6, .int .i64 b7])).run Try.prog w
      = .ok (a0 == b0 && (a1 == b1 && (a2 == b2 && (a3.toList == b3.toList && (a4.toList == b4.toList && (a5.toList == b5.toList && (a6 == b6 && a7 == b7))))))) w := by
  have hS : Try.prog.underlying 47 = some (.struct (Try.prog.fieldsOf 47)) := by kernel_rfl
  have hp : Try.prog.stoodInHeld 47 = false := by kernel_rfl
  rw [show (10000 : Nat) = 9999 + 1 from rfl, run_equalIn_agg w 9999 47 _ _ hS hp]
  simp only [Program.fieldsOf, Try.underlying47]
  go_simp
  by_cases h0 : a0 = b0
  case neg => simp [h0]
  by_cases h1 : a1 = b1
  case neg => simp [h0, h1]
  by_cases h2 : a2 = b2
  case neg => simp [h0, h1, h2]
  by_cases h3 : a3.toList = b3.toList
  case neg => simp [h0, h1, h2, h3]
  by_cases h4 : a4.toList = b4.toList
  case neg => simp [h0, h1, h2, h3, h4]
  by_cases h5 : a5.toList = b5.toList
  case neg => simp [h0, h1, h2, h3, h4, h5]
  by_cases h6 : a6 = b6
  case neg => simp [h0, h1, h2, h3, h4, h5, h6]
  by_cases h7 : a7 = b7
  case neg => simp [h0, h1, h2, h3, h4, h5, h6, h7]
  simp [h0, h1, h2, h3, h4, h5, h6, h7]
set_option maxHeartbeats 4000000 in
theorem evOk_t (kind style : Int) (flag : Bool) (text anchor tag : ByteArray) (at_ code : Int) (b0 b1 : Int) (b2 : Bool) (b3 b4 b5 : ByteArray) (b6 b7 : Int) (f : Bool) (w : World)
    (cN : Hid (∀ w, Calls Try.prog 64 #[.agg #[.int .i64 kind, .int .i64 style, .bool flag, .string text, .string anchor, .string tag, .int .i64 at_, .int .i64 code]] w fun r w' => r = .returned (.agg #[.int .i64 b0, .int .i64 b1, .bool b2, .string b3, .string b4, .string b5, .int .i64 b6, .int .i64 b7]) ∧ Below w.heap.size w w'))
    (cF : Hid (∀ w, Calls Try.prog 65 #[.agg #[.int .i64 kind, .int .i64 style, .bool flag, .string text, .string anchor, .string tag, .int .i64 at_, .int .i64 code]] w fun r w' => r = .returned (.bool f) ∧ Below w.heap.size w w'))
    (hE : ∀ w, (Op.equalIn 10000 47 (.agg #[.int .i64 kind, .int .i64 style, .bool flag, .string text, .string anchor, .string tag, .int .i64 at_, .int .i64 code]) (.agg #[.int .i64 b0, .int .i64 b1, .bool b2, .string b3, .string b4, .string b5, .int .i64 b6, .int .i64 b7])).run Try.prog w = .ok true w) :
    Calls Try.prog 58 #[.agg #[.int .i64 kind, .int .i64 style, .bool flag, .string text, .string anchor, .string tag, .int .i64 at_, .int .i64 code]] w fun r w' => r = .returned (.bool f) ∧ Below w.heap.size w w' := by
  have HAL : Hid (Below w.heap.size w (w.alloc (.cells #[.int .i64 kind, .int .i64 style, .bool flag, .string text, .string anchor, .string tag, .int .i64 at_, .int .i64 code] 47)).drew) := ((Below.refl _ w).alloc (Nat.le_refl _) _).drew
  go_enter Try.func58, Try.ntmps58
  go_wp2_with fail
  obtain ⟨q0, q1, q2, q3, q4, q5, q6, q7⟩ := ev_at (heap_alloc_new w (.cells #[.int .i64 kind, .int .i64 style, .bool flag, .string text, .string anchor, .string tag, .int .i64 at_, .int .i64 code] 47))
  go_region_held3 (fun V => (V.cell? ⟨w.heap.size, 0, none⟩ = some (.int .i64 kind) ∧ V.cell? ⟨w.heap.size, 1, none⟩ = some (.int .i64 style) ∧ V.cell? ⟨w.heap.size, 2, none⟩ = some (.bool flag) ∧ V.cell? ⟨w.heap.size, 3, none⟩ = some (.string text)) ∧ (V.cell? ⟨w.heap.size, 4, none⟩ = some (.string anchor) ∧ V.cell? ⟨w.heap.size, 5, none⟩ = some (.string tag) ∧ V.cell? ⟨w.heap.size, 6, none⟩ = some (.int .i64 at_) ∧ V.cell? ⟨w.heap.size, 7, none⟩ = some (.int .i64 code)))
    (first | exact ⟨⟨q0, q1, q2, q3⟩, q4, q5, q6, q7⟩ | exact ⟨⟨cst hb1 (by assumption), cst hb1 (by assumption), cst hb1 (by assumption), cst hb1 (by assumption)⟩, cst hb1 (by assumption), cst hb1 (by assumption), cst hb1 (by assumption), cst hb1 (by assumption)⟩ | exact ⟨⟨cst hb2 (cst hb1 (by assumption)), cst hb2 (cst hb1 (by assumption)), cst hb2 (cst hb1 (by assumption)), cst hb2 (cst hb1 (by assumption))⟩, cst hb2 (cst hb1 (by assumption)), cst hb2 (cst hb1 (by assumption)), cst hb2 (cst hb1 (by assumption)), cst hb2 (cst hb1 (by assumption))⟩ | go_keep)
    (first | (go_at_call 64; refine (cN.out _).mono ?_; rintro e w1 ⟨rfl, hb1⟩) | (go_at_call 65; refine (cF.out _).mono ?_; rintro e w2 ⟨rfl, hb2⟩))
  clear q0 q1 q2 q3 q4 q5 q6 q7 cN cF hE
  have HB1 : Hid (Below w.heap.size w w1) := HAL.out.trans (hb1.mono HAL.out.size)
  clear hb1
  go_wp2_with fail
  go_ret
  exact ⟨rfl, HB1.out.trans (hb2.mono HB1.out.size)⟩
set_option maxHeartbeats 4000000 in
theorem evOk_f (kind style : Int) (flag : Bool) (text anchor tag : ByteArray) (at_ code : Int) (b0 b1 : Int) (b2 : Bool) (b3 b4 b5 : ByteArray) (b6 b7 : Int) (w : World)
    (cN : Hid (∀ w, Calls Try.prog 64 #[.agg #[.int .i64 kind, .int .i64 style, .bool flag, .string text, .string anchor, .string tag, .int .i64 at_, .int .i64 code]] w fun r w' => r = .returned (.agg #[.int .i64 b0, .int .i64 b1, .bool b2, .string b3, .string b4, .string b5, .int .i64 b6, .int .i64 b7]) ∧ Below w.heap.size w w'))
    (hE : ∀ w, (Op.equalIn 10000 47 (.agg #[.int .i64 kind, .int .i64 style, .bool flag, .string text, .string anchor, .string tag, .int .i64 at_, .int .i64 code]) (.agg #[.int .i64 b0, .int .i64 b1, .bool b2, .string b3, .string b4, .string b5, .int .i64 b6, .int .i64 b7])).run Try.prog w = .ok false w) :
    Calls Try.prog 58 #[.agg #[.int .i64 kind, .int .i64 style, .bool flag, .string text, .string anchor, .string tag, .int .i64 at_, .int .i64 code]] w fun r w' => r = .returned (.bool false) ∧ Below w.heap.size w w' := by
  have HAL : Hid (Below w.heap.size w (w.alloc (.cells #[.int .i64 kind, .int .i64 style, .bool flag, .string text, .string anchor, .string tag, .int .i64 at_, .int .i64 code] 47)).drew) := ((Below.refl _ w).alloc (Nat.le_refl _) _).drew
  go_enter Try.func58, Try.ntmps58
  go_wp2_with fail
  go_region_with (go_at_call 64; refine (cN.out _).mono ?_; rintro e w1 ⟨rfl, hb1⟩; obtain ⟨q0, q1, q2, q3, q4, q5, q6, q7⟩ := ev_at ((hb1.block w.heap.size (show w.heap.size < (w.heap.push _).size by simp)).trans (heap_alloc_new w (.cells #[.int .i64 kind, .int .i64 style, .bool flag, .string text, .string anchor, .string tag, .int .i64 at_, .int .i64 code] 47))))
  all_goals (
    clear q0 q1 q2 q3 q4 q5 q6 q7 cN hE
    have HB1 : Hid (Below w.heap.size w w1) := HAL.out.trans (hb1.mono HAL.out.size)
    clear hb1
    go_wp2_with fail
    go_ret
    exact ⟨rfl, HB1.out⟩)
theorem eventOk_any (e : Ev) (w : World) (hs : e.text.size ≤ mx ∧ e.anchor.size ≤ mx ∧ e.tag.size ≤ mx) :
    Calls Try.prog 58 #[.agg e.row] w fun r w' => r = .returned (.bool (evOk e)) ∧ Below w.heap.size w w' := by
  have cN := fun w => named_any e w
  have cF := fun w => fields_any e w hs
  rw [← evOk_impl e]
  generalize hn : namedE e = n at *
  obtain ⟨kind, style, flag, text, anchor, tag, at_, code⟩ := e
  obtain ⟨b0, b1, b2, b3, b4, b5, b6, b7⟩ := n
  have hE := fun w => equalIn_ev kind style flag text anchor tag at_ code b0 b1 b2 b3 b4 b5 b6 b7 w
  have hq : eqEv ⟨kind, style, flag, text, anchor, tag, at_, code⟩ ⟨b0, b1, b2, b3, b4, b5, b6, b7⟩ = (kind == b0 && (style == b1 && (flag == b2 && (text.toList == b3.toList && (anchor.toList == b4.toList && (tag.toList == b5.toList && (at_ == b6 && code == b7))))))) := rfl
  rw [hq]
  generalize (kind == b0 && (style == b1 && (flag == b2 && (text.toList == b3.toList && (anchor.toList == b4.toList && (tag.toList == b5.toList && (at_ == b6 && code == b7))))))) = g at *
  cases g with
  | true =>
    rw [Bool.true_and]
    exact evOk_t kind style flag text anchor tag at_ code b0 b1 b2 b3 b4 b5 b6 b7 _ w cN cF hE
  | false =>
    rw [Bool.false_and]
    exact evOk_f kind style flag text anchor tag at_ code b0 b1 b2 b3 b4 b5 b6 b7 w cN hE
theorem implEo : ImplEo := fun e w ht _ => by
  unfold Ev.tot at ht
  exact eventOk_any e w ⟨by unfold mx; omega, by unfold mx; omega, by unfold mx; omega⟩
end Go.Proofs.Ytkdlakcmhdiojaa
/- impl's walk over a stream: leave. -/
namespace Go.Proofs.Ytkdlakcmhdiojaa
open Go.ChangeShapes Go.WideShapes Go.ChangeAt Go.RowKit
set_option maxHeartbeats 2000000 in
theorem leave_no (b : Nat) (c : Int) (ar : List Int) (w : World) (hW : Wk b c ar w) (h4 : c ≠ 4) (h5 : c ≠ 5) :
    Calls Try.prog 69 #[.pointer (some ⟨b, 0, none⟩)] w fun e w' => e = .returned (.bool false) ∧ Below b w w' := by
  obtain ⟨a, n, cp, h1, _⟩ := hW
  have c0 := h1.c0
  have t4 : (c != 4) = true := by rw [bne_iff_ne]; exact h4
  have t5 : (c != 5) = true := by rw [bne_iff_ne]; exact h5
  clear h1 h4 h5
  go_enter Try.func69, Try.ntmps69
  go_wp2_with fail
  go_ret
  exact ⟨rfl, Below.refl _ _⟩
set_option maxHeartbeats 8000000 in
theorem leave_yes (b : Nat) (c x : Int) (ar : List Int) (w : World) (hW : Wk b c (x :: ar) w) (hc : c = 4 ∨ c = 5) (hl : ar.length ≤ 100000000) :
    Calls Try.prog 69 #[.pointer (some ⟨b, 0, none⟩)] w fun e w' => e = .returned (.bool true) ∧ Wk b x ar w' ∧ Below b w w' := by
  obtain ⟨a, n, cp, h1, h2⟩ := hW
  rw [List.reverse_cons, show intV (ar.reverse ++ [x]) = intV ar.reverse ++ [.int .i64 x] from List.map_append] at h2
  obtain ⟨g, cq, hv, hn, hg1, hg2, hcq, hcell, hfz, hset, hrow⟩ := row_top h2
  have hlen : (intV ar.reverse).length = ar.length := by unfold intV; rw [List.length_map, List.length_reverse]
  rw [hlen] at hv hcell hrow
  injection hv with ha hn' hcp
  subst ha
  subst hcp
  subst hn'
  have hcq' : ar.length + 1 ≤ cp := by simp at hcq; exact hcq
  have c0 := h1.c0
  have c1 := h1.c1
  have f0 := h1.fz 0
  have f1 := h1.fz 1
  have HQ : Hid (Wk b x ar ((w.setCell ⟨b, 0, none⟩ (.int .i64 x)).setCell ⟨b, 1, none⟩ (.slice (some ⟨g, 0, none⟩) ar.length cp)) ∧ Below b w ((w.setCell ⟨b, 0, none⟩ (.int .i64 x)).setCell ⟨b, 1, none⟩ (.slice (some ⟨g, 0, none⟩) ar.length cp))) :=
    ⟨⟨_, _, _, (h1.set0 x).set1 _, row_past' (row_past' hrow)⟩, (below_set w).trans (below_set _)⟩
  have k1 := (h1.set0 x).c1
  have kf := (h1.set0 x).fz 1
  have hgb : g ≠ b := by omega
  obtain ⟨m, hm⟩ : ∃ m, ar.length = m := ⟨_, rfl⟩
  rw [hm] at hcell c1 k1 HQ hl hcq'
  have hD : c = 4 ∨ c = 5 := hc
  clear h1 h2 hrow hlen hm hcq hn hg1 hg2 hc hfz hset
  rcases hD with rfl | rfl
  all_goals
    go_enter Try.func69, Try.ntmps69
    go_wp2_with fail
    go_region
    all_goals (
      clear hcell c1 c0 k1 kf f0 f1 hgb
      go_wp2_with fail
      go_ret
      exact ⟨rfl, HQ.out.1.stays (Below.refl _ _).drew, HQ.out.2.drew⟩)
end Go.Proofs.Ytkdlakcmhdiojaa
/- impl's walk over a stream takes an event. -/
namespace Go.Proofs.Ytkdlakcmhdiojaa
open Go.ChangeShapes Go.WideShapes Go.ChangeAt Go.RowKit
set_option maxHeartbeats 4000000 in
theorem take1_y (b : Nat) (ar : List Int) (style : Int) (flag : Bool) (text anchor tag : ByteArray) (at_ code : Int) (w : World)  (hW : Wk b 0 ar w) :
    Calls Try.prog 59 #[.pointer (some ⟨b, 0, none⟩), .agg #[.int .i64 1, .int .i64 style, .bool flag, .string text, .string anchor, .string tag, .int .i64 at_, .int .i64 code]] w fun e w' => e = .returned (.bool true) ∧ Wk b 1 (ar) w' ∧ Below b w w' := by
  have HAL : Hid (Below b w (w.alloc (.cells #[.int .i64 1, .int .i64 style, .bool flag, .string text, .string anchor, .string tag, .int .i64 at_, .int .i64 code] 47))) := ((Below.refl _ w).alloc (Nat.le_refl _) _).mono (Nat.le_of_lt hW.lt)
  have cT := turn_yes b 0 1 ar _ (hW.stays ((Below.refl w.heap.size w).alloc (Nat.le_refl _) (.cells #[.int .i64 1, .int .i64 style, .bool flag, .string text, .string anchor, .string tag, .int .i64 at_, .int .i64 code] 47)))
  clear hW
  go_enter Try.func59, Try.ntmps59
  go_wp2_with fail
  refine cT.mono ?_
  rintro e w1 ⟨rfl, hw1, hb1⟩
  clear cT
  go_wp2_with fail
  go_ret
  exact ⟨rfl, hw1, HAL.out.trans hb1⟩
set_option maxHeartbeats 4000000 in
theorem take1_n (b : Nat) (ar : List Int) (style : Int) (flag : Bool) (text anchor tag : ByteArray) (at_ code : Int) (w : World) (c : Int) (hc : c ≠ 0) (hW : Wk b c ar w) :
    Calls Try.prog 59 #[.pointer (some ⟨b, 0, none⟩), .agg #[.int .i64 1, .int .i64 style, .bool flag, .string text, .string anchor, .string tag, .int .i64 at_, .int .i64 code]] w fun e w' => e = .returned (.bool false) ∧ Below b w w' := by
  have HAL : Hid (Below b w (w.alloc (.cells #[.int .i64 1, .int .i64 style, .bool flag, .string text, .string anchor, .string tag, .int .i64 at_, .int .i64 code] 47))) := ((Below.refl _ w).alloc (Nat.le_refl _) _).mono (Nat.le_of_lt hW.lt)
  have cT := turn_no b c 0 1 ar _ (hW.stays ((Below.refl w.heap.size w).alloc (Nat.le_refl _) (.cells #[.int .i64 1, .int .i64 style, .bool flag, .string text, .string anchor, .string tag, .int .i64 at_, .int .i64 code] 47))) hc
  clear hW
  go_enter Try.func59, Try.ntmps59
  go_wp2_with fail
  refine cT.mono ?_
  rintro e w1 ⟨rfl, hb1⟩
  clear cT
  go_wp2_with fail
  go_ret
  exact ⟨rfl, HAL.out.trans hb1⟩
set_option maxHeartbeats 4000000 in
theorem take2_y (b : Nat) (ar : List Int) (style : Int) (flag : Bool) (text anchor tag : ByteArray) (at_ code : Int) (w : World)  (hW : Wk b 1 ar w) :
    Calls Try.prog 59 #[.pointer (some ⟨b, 0, none⟩), .agg #[.int .i64 2, .int .i64 style, .bool flag, .string text, .string anchor, .string tag, .int .i64 at_, .int .i64 code]] w fun e w' => e = .returned (.bool true) ∧ Wk b 2 (ar) w' ∧ Below b w w' := by
  have HAL : Hid (Below b w (w.alloc (.cells #[.int .i64 2, .int .i64 style, .bool flag, .string text, .string anchor, .string tag, .int .i64 at_, .int .i64 code] 47))) := ((Below.refl _ w).alloc (Nat.le_refl _) _).mono (Nat.le_of_lt hW.lt)
  have cT := turn_yes b 1 2 ar _ (hW.stays ((Below.refl w.heap.size w).alloc (Nat.le_refl _) (.cells #[.int .i64 2, .int .i64 style, .bool flag, .string text, .string anchor, .string tag, .int .i64 at_, .int .i64 code] 47)))
  clear hW
  go_enter Try.func59, Try.ntmps59
  go_wp2_with fail
  refine cT.mono ?_
  rintro e w1 ⟨rfl, hw1, hb1⟩
  clear cT
  go_wp2_with fail
  go_ret
  exact ⟨rfl, hw1, HAL.out.trans hb1⟩
set_option maxHeartbeats 4000000 in
theorem take2_n (b : Nat) (ar : List Int) (style : Int) (flag : Bool) (text anchor tag : ByteArray) (at_ code : Int) (w : World) (c : Int) (hc : c ≠ 1) (hW : Wk b c ar w) :
    Calls Try.prog 59 #[.pointer (some ⟨b, 0, none⟩), .agg #[.int .i64 2, .int .i64 style, .bool flag, .string text, .string anchor, .string tag, .int .i64 at_, .int .i64 code]] w fun e w' => e = .returned (.bool false) ∧ Below b w w' := by
  have HAL : Hid (Below b w (w.alloc (.cells #[.int .i64 2, .int .i64 style, .bool flag, .string text, .string anchor, .string tag, .int .i64 at_, .int .i64 code] 47))) := ((Below.refl _ w).alloc (Nat.le_refl _) _).mono (Nat.le_of_lt hW.lt)
  have cT := turn_no b c 1 2 ar _ (hW.stays ((Below.refl w.heap.size w).alloc (Nat.le_refl _) (.cells #[.int .i64 2, .int .i64 style, .bool flag, .string text, .string anchor, .string tag, .int .i64 at_, .int .i64 code] 47))) hc
  clear hW
  go_enter Try.func59, Try.ntmps59
  go_wp2_with fail
  refine cT.mono ?_
  rintro e w1 ⟨rfl, hb1⟩
  clear cT
  go_wp2_with fail
  go_ret
  exact ⟨rfl, HAL.out.trans hb1⟩
set_option maxHeartbeats 4000000 in
theorem take8_y (b : Nat) (ar : List Int) (style : Int) (flag : Bool) (text anchor tag : ByteArray) (at_ code : Int) (w : World)  (hW : Wk b 3 ar w) :
    Calls Try.prog 59 #[.pointer (some ⟨b, 0, none⟩), .agg #[.int .i64 8, .int .i64 style, .bool flag, .string text, .string anchor, .string tag, .int .i64 at_, .int .i64 code]] w fun e w' => e = .returned (.bool true) ∧ Wk b 1 (ar) w' ∧ Below b w w' := by
  have HAL : Hid (Below b w (w.alloc (.cells #[.int .i64 8, .int .i64 style, .bool flag, .string text, .string anchor, .string tag, .int .i64 at_, .int .i64 code] 47))) := ((Below.refl _ w).alloc (Nat.le_refl _) _).mono (Nat.le_of_lt hW.lt)
  have cT := turn_yes b 3 1 ar _ (hW.stays ((Below.refl w.heap.size w).alloc (Nat.le_refl _) (.cells #[.int .i64 8, .int .i64 style, .bool flag, .string text, .string anchor, .string tag, .int .i64 at_, .int .i64 code] 47)))
  clear hW
  go_enter Try.func59, Try.ntmps59
  go_wp2_with fail
  refine cT.mono ?_
  rintro e w1 ⟨rfl, hw1, hb1⟩
  clear cT
  go_wp2_with fail
  go_ret
  exact ⟨rfl, hw1, HAL.out.trans hb1⟩
set_option maxHeartbeats 4000000 in
theorem take8_n (b : Nat) (ar : List Int) (style : Int) (flag : Bool) (text anchor tag : ByteArray) (at_ code : Int) (w : World) (c : Int) (hc : c ≠ 3) (hW : Wk b c ar w) :
    Calls Try.prog 59 #[.pointer (some ⟨b, 0, none⟩), .agg #[.int .i64 8, .int .i64 style, .bool flag, .string text, .string anchor, .string tag, .int .i64 at_, .int .i64 code]] w fun e w' => e = .returned (.bool false) ∧ Below b w w' := by
  have HAL : Hid (Below b w (w.alloc (.cells #[.int .i64 8, .int .i64 style, .bool flag, .string text, .string anchor, .string tag, .int .i64 at_, .int .i64 code] 47))) := ((Below.refl _ w).alloc (Nat.le_refl _) _).mono (Nat.le_of_lt hW.lt)
  have cT := turn_no b c 3 1 ar _ (hW.stays ((Below.refl w.heap.size w).alloc (Nat.le_refl _) (.cells #[.int .i64 8, .int .i64 style, .bool flag, .string text, .string anchor, .string tag, .int .i64 at_, .int .i64 code] 47))) hc
  clear hW
  go_enter Try.func59, Try.ntmps59
  go_wp2_with fail
  refine cT.mono ?_
  rintro e w1 ⟨rfl, hb1⟩
  clear cT
  go_wp2_with fail
  go_ret
  exact ⟨rfl, HAL.out.trans hb1⟩
set_option maxHeartbeats 4000000 in
theorem take9_y (b : Nat) (ar : List Int) (style : Int) (flag : Bool) (text anchor tag : ByteArray) (at_ code : Int) (w : World)  (hW : Wk b 1 ar w) :
    Calls Try.prog 59 #[.pointer (some ⟨b, 0, none⟩), .agg #[.int .i64 9, .int .i64 style, .bool flag, .string text, .string anchor, .string tag, .int .i64 at_, .int .i64 code]] w fun e w' => e = .returned (.bool true) ∧ Wk b 7 (ar) w' ∧ Below b w w' := by
  have HAL : Hid (Below b w (w.alloc (.cells #[.int .i64 9, .int .i64 style, .bool flag, .string text, .string anchor, .string tag, .int .i64 at_, .int .i64 code] 47))) := ((Below.refl _ w).alloc (Nat.le_refl _) _).mono (Nat.le_of_lt hW.lt)
  have cT := turn_yes b 1 7 ar _ (hW.stays ((Below.refl w.heap.size w).alloc (Nat.le_refl _) (.cells #[.int .i64 9, .int .i64 style, .bool flag, .string text, .string anchor, .string tag, .int .i64 at_, .int .i64 code] 47)))
  clear hW
  go_enter Try.func59, Try.ntmps59
  go_wp2_with fail
  refine cT.mono ?_
  rintro e w1 ⟨rfl, hw1, hb1⟩
  clear cT
  go_wp2_with fail
  go_ret
  exact ⟨rfl, hw1, HAL.out.trans hb1⟩
set_option maxHeartbeats 4000000 in
theorem take9_n (b : Nat) (ar : List Int) (style : Int) (flag : Bool) (text anchor tag : ByteArray) (at_ code : Int) (w : World) (c : Int) (hc : c ≠ 1) (hW : Wk b c ar w) :
    Calls Try.prog 59 #[.pointer (some ⟨b, 0, none⟩), .agg #[.int .i64 9, .int .i64 style, .bool flag, .string text, .string anchor, .string tag, .int .i64 at_, .int .i64 code]] w fun e w' => e = .returned (.bool false) ∧ Below b w w' := by
  have HAL : Hid (Below b w (w.alloc (.cells #[.int .i64 9, .int .i64 style, .bool flag, .string text, .string anchor, .string tag, .int .i64 at_, .int .i64 code] 47))) := ((Below.refl _ w).alloc (Nat.le_refl _) _).mono (Nat.le_of_lt hW.lt)
  have cT := turn_no b c 1 7 ar _ (hW.stays ((Below.refl w.heap.size w).alloc (Nat.le_refl _) (.cells #[.int .i64 9, .int .i64 style, .bool flag, .string text, .string anchor, .string tag, .int .i64 at_, .int .i64 code] 47))) hc
  clear hW
  go_enter Try.func59, Try.ntmps59
  go_wp2_with fail
  refine cT.mono ?_
  rintro e w1 ⟨rfl, hb1⟩
  clear cT
  go_wp2_with fail
  go_ret
  exact ⟨rfl, HAL.out.trans hb1⟩
set_option maxHeartbeats 4000000 in
theorem take3_y (b : Nat) (ar : List Int) (style : Int) (flag : Bool) (text anchor tag : ByteArray) (at_ code : Int) (w : World) (c d : Int) (hd : nd c = some d) (hl : ar.length ≤ 100000000) (hW : Wk b c ar w) :
    Calls Try.prog 59 #[.pointer (some ⟨b, 0, none⟩), .agg #[.int .i64 3, .int .i64 style, .bool flag, .string text, .string anchor, .string tag, .int .i64 at_, .int .i64 code]] w fun e w' => e = .returned (.bool true) ∧ Wk b 4 (d :: ar) w' ∧ Below b w w' := by
  have HAL : Hid (Below b w (w.alloc (.cells #[.int .i64 3, .int .i64 style, .bool flag, .string text, .string anchor, .string tag, .int .i64 at_, .int .i64 code] 47))) := ((Below.refl _ w).alloc (Nat.le_refl _) _).mono (Nat.le_of_lt hW.lt)
  have cT := node_yes b c d ar _ (hW.stays ((Below.refl w.heap.size w).alloc (Nat.le_refl _) (.cells #[.int .i64 3, .int .i64 style, .bool flag, .string text, .string anchor, .string tag, .int .i64 at_, .int .i64 code] 47))) hd
  clear hW
  go_enter Try.func59, Try.ntmps59
  go_wp2_with fail
  refine cT.mono ?_
  rintro e w1 ⟨rfl, hw1, hb1⟩
  clear cT
  have cE := enter_any b d 4 ar _ hw1 hl
  have HB1 : Hid (Below b w w1) := HAL.out.trans hb1
  clear hw1 hb1
  go_wp2_with fail
  refine cE.mono ?_
  rintro e w2 ⟨rfl, hw2, hb2⟩
  clear cE
  go_wp2_with fail
  go_ret
  exact ⟨rfl, hw2, HB1.out.trans hb2⟩
set_option maxHeartbeats 4000000 in
theorem take3_n (b : Nat) (ar : List Int) (style : Int) (flag : Bool) (text anchor tag : ByteArray) (at_ code : Int) (w : World) (c : Int) (hd : nd c = none) (hW : Wk b c ar w) :
    Calls Try.prog 59 #[.pointer (some ⟨b, 0, none⟩), .agg #[.int .i64 3, .int .i64 style, .bool flag, .string text, .string anchor, .string tag, .int .i64 at_, .int .i64 code]] w fun e w' => e = .returned (.bool false) ∧ Below b w w' := by
  have HAL : Hid (Below b w (w.alloc (.cells #[.int .i64 3, .int .i64 style, .bool flag, .string text, .string anchor, .string tag, .int .i64 at_, .int .i64 code] 47))) := ((Below.refl _ w).alloc (Nat.le_refl _) _).mono (Nat.le_of_lt hW.lt)
  have cT := node_no b c ar _ (hW.stays ((Below.refl w.heap.size w).alloc (Nat.le_refl _) (.cells #[.int .i64 3, .int .i64 style, .bool flag, .string text, .string anchor, .string tag, .int .i64 at_, .int .i64 code] 47))) hd
  clear hW
  go_enter Try.func59, Try.ntmps59
  go_wp2_with fail
  refine cT.mono ?_
  rintro e w1 ⟨rfl, hb1⟩
  clear cT
  go_wp2_with fail
  go_ret
  exact ⟨rfl, HAL.out.trans hb1⟩
set_option maxHeartbeats 4000000 in
theorem take4_y (b : Nat) (ar : List Int) (style : Int) (flag : Bool) (text anchor tag : ByteArray) (at_ code : Int) (w : World) (c d : Int) (hd : nd c = some d) (hl : ar.length ≤ 100000000) (hW : Wk b c ar w) :
    Calls Try.prog 59 #[.pointer (some ⟨b, 0, none⟩), .agg #[.int .i64 4, .int .i64 style, .bool flag, .string text, .string anchor, .string tag, .int .i64 at_, .int .i64 code]] w fun e w' => e = .returned (.bool true) ∧ Wk b 5 (d :: ar) w' ∧ Below b w w' := by
  have HAL : Hid (Below b w (w.alloc (.cells #[.int .i64 4, .int .i64 style, .bool flag, .string text, .string anchor, .string tag, .int .i64 at_, .int .i64 code] 47))) := ((Below.refl _ w).alloc (Nat.le_refl _) _).mono (Nat.le_of_lt hW.lt)
  have cT := node_yes b c d ar _ (hW.stays ((Below.refl w.heap.size w).alloc (Nat.le_refl _) (.cells #[.int .i64 4, .int .i64 style, .bool flag, .string text, .string anchor, .string tag, .int .i64 at_, .int .i64 code] 47))) hd
  clear hW
  go_enter Try.func59, Try.ntmps59
  go_wp2_with fail
  refine cT.mono ?_
  rintro e w1 ⟨rfl, hw1, hb1⟩
  clear cT
  have cE := enter_any b d 5 ar _ hw1 hl
  have HB1 : Hid (Below b w w1) := HAL.out.trans hb1
  clear hw1 hb1
  go_wp2_with fail
  refine cE.mono ?_
  rintro e w2 ⟨rfl, hw2, hb2⟩
  clear cE
  go_wp2_with fail
  go_ret
  exact ⟨rfl, hw2, HB1.out.trans hb2⟩
set_option maxHeartbeats 4000000 in
theorem take4_n (b : Nat) (ar : List Int) (style : Int) (flag : Bool) (text anchor tag : ByteArray) (at_ code : Int) (w : World) (c : Int) (hd : nd c = none) (hW : Wk b c ar w) :
    Calls Try.prog 59 #[.pointer (some ⟨b, 0, none⟩), .agg #[.int .i64 4, .int .i64 style, .bool flag, .string text, .string anchor, .string tag, .int .i64 at_, .int .i64 code]] w fun e w' => e = .returned (.bool false) ∧ Below b w w' := by
  have HAL : Hid (Below b w (w.alloc (.cells #[.int .i64 4, .int .i64 style, .bool flag, .string text, .string anchor, .string tag, .int .i64 at_, .int .i64 code] 47))) := ((Below.refl _ w).alloc (Nat.le_refl _) _).mono (Nat.le_of_lt hW.lt)
  have cT := node_no b c ar _ (hW.stays ((Below.refl w.heap.size w).alloc (Nat.le_refl _) (.cells #[.int .i64 4, .int .i64 style, .bool flag, .string text, .string anchor, .string tag, .int .i64 at_, .int .i64 code] 47))) hd
  clear hW
  go_enter Try.func59, Try.ntmps59
  go_wp2_with fail
  refine cT.mono ?_
  rintro e w1 ⟨rfl, hb1⟩
  clear cT
  go_wp2_with fail
  go_ret
  exact ⟨rfl, HAL.out.trans hb1⟩
set_option maxHeartbeats 4000000 in
theorem take5_y (b : Nat) (ar : List Int) (style : Int) (flag : Bool) (text anchor tag : ByteArray) (at_ code : Int) (w : World) (c d : Int) (hd : nd c = some d) (hW : Wk b c ar w) :
    Calls Try.prog 59 #[.pointer (some ⟨b, 0, none⟩), .agg #[.int .i64 5, .int .i64 style, .bool flag, .string text, .string anchor, .string tag, .int .i64 at_, .int .i64 code]] w fun e w' => e = .returned (.bool true) ∧ Wk b d (ar) w' ∧ Below b w w' := by
  have HAL : Hid (Below b w (w.alloc (.cells #[.int .i64 5, .int .i64 style, .bool flag, .string text, .string anchor, .string tag, .int .i64 at_, .int .i64 code] 47))) := ((Below.refl _ w).alloc (Nat.le_refl _) _).mono (Nat.le_of_lt hW.lt)
  have cT := node_yes b c d ar _ (hW.stays ((Below.refl w.heap.size w).alloc (Nat.le_refl _) (.cells #[.int .i64 5, .int .i64 style, .bool flag, .string text, .string anchor, .string tag, .int .i64 at_, .int .i64 code] 47))) hd
  clear hW
  go_enter Try.func59, Try.ntmps59
  go_wp2_with fail
  refine cT.mono ?_
  rintro e w1 ⟨rfl, hw1, hb1⟩
  clear cT
  go_wp2_with fail
  go_ret
  exact ⟨rfl, hw1, HAL.out.trans hb1⟩
set_option maxHeartbeats 4000000 in
theorem take5_n (b : Nat) (ar : List Int) (style : Int) (flag : Bool) (text anchor tag : ByteArray) (at_ code : Int) (w : World) (c : Int) (hd : nd c = none) (hW : Wk b c ar w) :
    Calls Try.prog 59 #[.pointer (some ⟨b, 0, none⟩), .agg #[.int .i64 5, .int .i64 style, .bool flag, .string text, .string anchor, .string tag, .int .i64 at_, .int .i64 code]] w fun e w' => e = .returned (.bool false) ∧ Below b w w' := by
  have HAL : Hid (Below b w (w.alloc (.cells #[.int .i64 5, .int .i64 style, .bool flag, .string text, .string anchor, .string tag, .int .i64 at_, .int .i64 code] 47))) := ((Below.refl _ w).alloc (Nat.le_refl _) _).mono (Nat.le_of_lt hW.lt)
  have cT := node_no b c ar _ (hW.stays ((Below.refl w.heap.size w).alloc (Nat.le_refl _) (.cells #[.int .i64 5, .int .i64 style, .bool flag, .string text, .string anchor, .string tag, .int .i64 at_, .int .i64 code] 47))) hd
  clear hW
  go_enter Try.func59, Try.ntmps59
  go_wp2_with fail
  refine cT.mono ?_
  rintro e w1 ⟨rfl, hb1⟩
  clear cT
  go_wp2_with fail
  go_ret
  exact ⟨rfl, HAL.out.trans hb1⟩
set_option maxHeartbeats 4000000 in
theorem take6_y (b : Nat) (ar : List Int) (style : Int) (flag : Bool) (text anchor tag : ByteArray) (at_ code : Int) (w : World) (c d : Int) (hd : nd c = some d) (hW : Wk b c ar w) :
    Calls Try.prog 59 #[.pointer (some ⟨b, 0, none⟩), .agg #[.int .i64 6, .int .i64 style, .bool flag, .string text, .string anchor, .string tag, .int .i64 at_, .int .i64 code]] w fun e w' => e = .returned (.bool true) ∧ Wk b d (ar) w' ∧ Below b w w' := by
  have HAL : Hid (Below b w (w.alloc (.cells #[.int .i64 6, .int .i64 style, .bool flag, .string text, .string anchor, .string tag, .int .i64 at_, .int .i64 code] 47))) := ((Below.refl _ w).alloc (Nat.le_refl _) _).mono (Nat.le_of_lt hW.lt)
  have cT := node_yes b c d ar _ (hW.stays ((Below.refl w.heap.size w).alloc (Nat.le_refl _) (.cells #[.int .i64 6, .int .i64 style, .bool flag, .string text, .string anchor, .string tag, .int .i64 at_, .int .i64 code] 47))) hd
  clear hW
  go_enter Try.func59, Try.ntmps59
  go_wp2_with fail
  refine cT.mono ?_
  rintro e w1 ⟨rfl, hw1, hb1⟩
  clear cT
  go_wp2_with fail
  go_ret
  exact ⟨rfl, hw1, HAL.out.trans hb1⟩
set_option maxHeartbeats 4000000 in
theorem take6_n (b : Nat) (ar : List Int) (style : Int) (flag : Bool) (text anchor tag : ByteArray) (at_ code : Int) (w : World) (c : Int) (hd : nd c = none) (hW : Wk b c ar w) :
    Calls Try.prog 59 #[.pointer (some ⟨b, 0, none⟩), .agg #[.int .i64 6, .int .i64 style, .bool flag, .string text, .string anchor, .string tag, .int .i64 at_, .int .i64 code]] w fun e w' => e = .returned (.bool false) ∧ Below b w w' := by
  have HAL : Hid (Below b w (w.alloc (.cells #[.int .i64 6, .int .i64 style, .bool flag, .string text, .string anchor, .string tag, .int .i64 at_, .int .i64 code] 47))) := ((Below.refl _ w).alloc (Nat.le_refl _) _).mono (Nat.le_of_lt hW.lt)
  have cT := node_no b c ar _ (hW.stays ((Below.refl w.heap.size w).alloc (Nat.le_refl _) (.cells #[.int .i64 6, .int .i64 style, .bool flag, .string text, .string anchor, .string tag, .int .i64 at_, .int .i64 code] 47))) hd
  clear hW
  go_enter Try.func59, Try.ntmps59
  go_wp2_with fail
  refine cT.mono ?_
  rintro e w1 ⟨rfl, hb1⟩
  clear cT
  go_wp2_with fail
  go_ret
  exact ⟨rfl, HAL.out.trans hb1⟩
set_option maxHeartbeats 4000000 in
theorem take7_y (b : Nat) (ar : List Int) (style : Int) (flag : Bool) (text anchor tag : ByteArray) (at_ code : Int) (w : World) (c x : Int) (hc : c = 4 ∨ c = 5) (hl : ar.length ≤ 100000000) (hW : Wk b c (x :: ar) w) :
    Calls Try.prog 59 #[.pointer (some ⟨b, 0, none⟩), .agg #[.int .i64 7, .int .i64 style, .bool flag, .string text, .string anchor, .string tag, .int .i64 at_, .int .i64 code]] w fun e w' => e = .returned (.bool true) ∧ Wk b x (ar) w' ∧ Below b w w' := by
  have HAL : Hid (Below b w (w.alloc (.cells #[.int .i64 7, .int .i64 style, .bool flag, .string text, .string anchor, .string tag, .int .i64 at_, .int .i64 code] 47))) := ((Below.refl _ w).alloc (Nat.le_refl _) _).mono (Nat.le_of_lt hW.lt)
  have cT := leave_yes b c x ar _ (hW.stays ((Below.refl w.heap.size w).alloc (Nat.le_refl _) (.cells #[.int .i64 7, .int .i64 style, .bool flag, .string text, .string anchor, .string tag, .int .i64 at_, .int .i64 code] 47))) hc hl
  clear hW
  go_enter Try.func59, Try.ntmps59
  go_wp2_with fail
  refine cT.mono ?_
  rintro e w1 ⟨rfl, hw1, hb1⟩
  clear cT
  go_wp2_with fail
  go_ret
  exact ⟨rfl, hw1, HAL.out.trans hb1⟩
set_option maxHeartbeats 4000000 in
theorem take7_n (b : Nat) (ar : List Int) (style : Int) (flag : Bool) (text anchor tag : ByteArray) (at_ code : Int) (w : World) (c : Int) (h4 : c ≠ 4) (h5 : c ≠ 5) (hW : Wk b c ar w) :
    Calls Try.prog 59 #[.pointer (some ⟨b, 0, none⟩), .agg #[.int .i64 7, .int .i64 style, .bool flag, .string text, .string anchor, .string tag, .int .i64 at_, .int .i64 code]] w fun e w' => e = .returned (.bool false) ∧ Below b w w' := by
  have HAL : Hid (Below b w (w.alloc (.cells #[.int .i64 7, .int .i64 style, .bool flag, .string text, .string anchor, .string tag, .int .i64 at_, .int .i64 code] 47))) := ((Below.refl _ w).alloc (Nat.le_refl _) _).mono (Nat.le_of_lt hW.lt)
  have cT := leave_no b c ar _ (hW.stays ((Below.refl w.heap.size w).alloc (Nat.le_refl _) (.cells #[.int .i64 7, .int .i64 style, .bool flag, .string text, .string anchor, .string tag, .int .i64 at_, .int .i64 code] 47))) h4 h5
  clear hW
  go_enter Try.func59, Try.ntmps59
  go_wp2_with fail
  refine cT.mono ?_
  rintro e w1 ⟨rfl, hb1⟩
  clear cT
  go_wp2_with fail
  go_ret
  exact ⟨rfl, HAL.out.trans hb1⟩
set_option maxHeartbeats 4000000 in
theorem take10_y (b : Nat) (ar : List Int) (style : Int) (flag : Bool) (text anchor tag : ByteArray) (at_ code : Int) (w : World) (c : Int) (h0 : c ≠ 0) (h7 : c ≠ 7) (hW : Wk b c ar w) :
    Calls Try.prog 59 #[.pointer (some ⟨b, 0, none⟩), .agg #[.int .i64 10, .int .i64 style, .bool flag, .string text, .string anchor, .string tag, .int .i64 at_, .int .i64 code]] w fun e w' => e = .returned (.bool true) ∧ Wk b 7 (ar) w' ∧ Below b w w' := by
  have HAL : Hid (Below b w (w.alloc (.cells #[.int .i64 10, .int .i64 style, .bool flag, .string text, .string anchor, .string tag, .int .i64 at_, .int .i64 code] 47))) := ((Below.refl _ w).alloc (Nat.le_refl _) _).mono (Nat.le_of_lt hW.lt)
  have cT := fail_yes b c ar _ (hW.stays ((Below.refl w.heap.size w).alloc (Nat.le_refl _) (.cells #[.int .i64 10, .int .i64 style, .bool flag, .string text, .string anchor, .string tag, .int .i64 at_, .int .i64 code] 47))) h0 h7
  clear hW
  go_enter Try.func59, Try.ntmps59
  go_wp2_with fail
  refine cT.mono ?_
  rintro e w1 ⟨rfl, hw1, hb1⟩
  clear cT
  go_wp2_with fail
  go_ret
  exact ⟨rfl, hw1, HAL.out.trans hb1⟩
set_option maxHeartbeats 4000000 in
theorem take10_n (b : Nat) (ar : List Int) (style : Int) (flag : Bool) (text anchor tag : ByteArray) (at_ code : Int) (w : World) (c : Int) (hc : c = 0 ∨ c = 7) (hW : Wk b c ar w) :
    Calls Try.prog 59 #[.pointer (some ⟨b, 0, none⟩), .agg #[.int .i64 10, .int .i64 style, .bool flag, .string text, .string anchor, .string tag, .int .i64 at_, .int .i64 code]] w fun e w' => e = .returned (.bool false) ∧ Below b w w' := by
  have HAL : Hid (Below b w (w.alloc (.cells #[.int .i64 10, .int .i64 style, .bool flag, .string text, .string anchor, .string tag, .int .i64 at_, .int .i64 code] 47))) := ((Below.refl _ w).alloc (Nat.le_refl _) _).mono (Nat.le_of_lt hW.lt)
  have cT := fail_no b c ar _ (hW.stays ((Below.refl w.heap.size w).alloc (Nat.le_refl _) (.cells #[.int .i64 10, .int .i64 style, .bool flag, .string text, .string anchor, .string tag, .int .i64 at_, .int .i64 code] 47))) hc
  clear hW
  go_enter Try.func59, Try.ntmps59
  go_wp2_with fail
  refine cT.mono ?_
  rintro e w1 ⟨rfl, hb1⟩
  clear cT
  go_wp2_with fail
  go_ret
  exact ⟨rfl, HAL.out.trans hb1⟩
/-- What take answers, and where the walk is then. -/
def TakeQ (b : Nat) (w : World) (o : Option (Int × List Int)) (e : Ending) (w' : World) : Prop :=
  Below b w w' ∧ match o with
    | none => e = .returned (.bool false)
    | some p => e = .returned (.bool true) ∧ Wk b p.1 p.2 w'
theorem TakeQ.yes {b : Nat} {w : World} {c : Int} {ar : List Int} {e : Ending} {w' : World} (h : e = .returned (.bool true) ∧ Wk b c ar w' ∧ Below b w w') : TakeQ b w (some (c, ar)) e w' := ⟨h.2.2, h.1, h.2.1⟩
theorem TakeQ.no {b : Nat} {w : World} {e : Ending} {w' : World} (h : e = .returned (.bool false) ∧ Below b w w') : TakeQ b w none e w' := ⟨h.2, h.1⟩
theorem take_any (b : Nat) (c : Int) (ar : List Int) (e : Ev) (w : World) (hW : Wk b c ar w) (h1 : 1 ≤ e.kind) (h10 : e.kind ≤ 10) (hx : c = 4 ∨ c = 5 → ∃ x t, ar = x :: t) (hl : ar.length ≤ 100000000) :
    Calls Try.prog 59 #[.pointer (some ⟨b, 0, none⟩), .agg e.row] w (TakeQ b w (tk c ar e.kind)) := by
  obtain ⟨kind, style, flag, text, anchor, tag, at_, code⟩ := e
  replace h1 : 1 ≤ kind := h1
  replace h10 : kind ≤ 10 := h10
  have hk : kind = 1 ∨ kind = 2 ∨ kind = 3 ∨ kind = 4 ∨ kind = 5 ∨ kind = 6 ∨ kind = 7 ∨ kind = 8 ∨ kind = 9 ∨ kind = 10 := by omega
  clear h1 h10
  rcases hk with rfl | rfl | rfl | rfl | rfl | rfl | rfl | rfl | rfl | rfl
  · show Calls _ _ _ _ (TakeQ b w (if c = 0 then some (1, ar) else none))
    by_cases hc : c = 0
    · subst hc
      rw [if_pos rfl]
      exact (take1_y b ar style flag text anchor tag at_ code w hW).mono fun _ _ h => TakeQ.yes h
    · rw [if_neg hc]
      exact (take1_n b ar style flag text anchor tag at_ code w c hc hW).mono fun _ _ h => TakeQ.no h
  · show Calls _ _ _ _ (TakeQ b w (if c = 1 then some (2, ar) else none))
    by_cases hc : c = 1
    · subst hc
      rw [if_pos rfl]
      exact (take2_y b ar style flag text anchor tag at_ code w hW).mono fun _ _ h => TakeQ.yes h
    · rw [if_neg hc]
      exact (take2_n b ar style flag text anchor tag at_ code w c hc hW).mono fun _ _ h => TakeQ.no h
  · show Calls _ _ _ _ (TakeQ b w ((nd c).map fun d => (4, d :: ar)))
    cases hd : nd c with
    | some d => exact (take3_y b ar style flag text anchor tag at_ code w c d hd hl hW).mono fun _ _ h => TakeQ.yes h
    | none => exact (take3_n b ar style flag text anchor tag at_ code w c hd hW).mono fun _ _ h => TakeQ.no h
  · show Calls _ _ _ _ (TakeQ b w ((nd c).map fun d => (5, d :: ar)))
    cases hd : nd c with
    | some d => exact (take4_y b ar style flag text anchor tag at_ code w c d hd hl hW).mono fun _ _ h => TakeQ.yes h
    | none => exact (take4_n b ar style flag text anchor tag at_ code w c hd hW).mono fun _ _ h => TakeQ.no h
  · show Calls _ _ _ _ (TakeQ b w ((nd c).map fun d => (d, ar)))
    cases hd : nd c with
    | some d => exact (take5_y b ar style flag text anchor tag at_ code w c d hd hW).mono fun _ _ h => TakeQ.yes h
    | none => exact (take5_n b ar style flag text anchor tag at_ code w c hd hW).mono fun _ _ h => TakeQ.no h
  · show Calls _ _ _ _ (TakeQ b w ((nd c).map fun d => (d, ar)))
    cases hd : nd c with
    | some d => exact (take6_y b ar style flag text anchor tag at_ code w c d hd hW).mono fun _ _ h => TakeQ.yes h
    | none => exact (take6_n b ar style flag text anchor tag at_ code w c hd hW).mono fun _ _ h => TakeQ.no h
  · show Calls _ _ _ _ (TakeQ b w (if c = 4 ∨ c = 5 then some (ar.headD 0, ar.tail) else none))
    by_cases hc : c = 4 ∨ c = 5
    · rw [if_pos hc]
      obtain ⟨x, t, rfl⟩ := hx hc
      exact (take7_y b t style flag text anchor tag at_ code w c x hc (by simp at hl; omega) hW).mono fun _ _ h => TakeQ.yes h
    · rw [if_neg hc]
      exact (take7_n b ar style flag text anchor tag at_ code w c (by omega) (by omega) hW).mono fun _ _ h => TakeQ.no h
  · show Calls _ _ _ _ (TakeQ b w (if c = 3 then some (1, ar) else none))
    by_cases hc : c = 3
    · subst hc
      rw [if_pos rfl]
      exact (take8_y b ar style flag text anchor tag at_ code w hW).mono fun _ _ h => TakeQ.yes h
    · rw [if_neg hc]
      exact (take8_n b ar style flag text anchor tag at_ code w c hc hW).mono fun _ _ h => TakeQ.no h
  · show Calls _ _ _ _ (TakeQ b w (if c = 1 then some (7, ar) else none))
    by_cases hc : c = 1
    · subst hc
      rw [if_pos rfl]
      exact (take9_y b ar style flag text anchor tag at_ code w hW).mono fun _ _ h => TakeQ.yes h
    · rw [if_neg hc]
      exact (take9_n b ar style flag text anchor tag at_ code w c hc hW).mono fun _ _ h => TakeQ.no h
  · show Calls _ _ _ _ (TakeQ b w (if c ≠ 0 ∧ c ≠ 7 then some (7, ar) else none))
    by_cases hc : c ≠ 0 ∧ c ≠ 7
    · rw [if_pos hc]
      exact (take10_y b ar style flag text anchor tag at_ code w c hc.1 hc.2 hW).mono fun _ _ h => TakeQ.yes h
    · rw [if_neg hc]
      exact (take10_n b ar style flag text anchor tag at_ code w c (by omega) hW).mono fun _ _ h => TakeQ.no h
end Go.Proofs.Ytkdlakcmhdiojaa
