/- spec.MarkAt answers what 'markN' says. -/
import Derived.Test.YtmbbmibkjnlkkaaMk
namespace Go.Proofs.Ytmbbmibkjnlkkaa
open Go.ChangeShapes Go.WideShapes Go.ChangeAt Go.RowKit
theorem gapP_or (s : ByteArray) (k : Nat) : gapP s k = ((decide (k < s.size) && pW (bt s k)) || brk s k) := by
  unfold gapP brk
  rw [pG_or]
  by_cases h : k < s.size
  · rw [decide_eq_true h, decide_eq_false (show ¬ s.size ≤ k by omega)]; rfl
  · rw [decide_eq_false h, decide_eq_true (show s.size ≤ k by omega)]; rfl
theorem spec_gap1 (s : ByteArray) (k : Nat) (w : World) (b : Bool) (hb : b = gapP s k) :
    Calls Try.prog 49 #[.string s, .int .i64 (k : Int)] w fun e w' => e = .returned (.bool b) ∧ w' = w := by
  rw [gapP_or] at hb
  cases hW : (decide (k < s.size) && pW (bt s k)) with
  | true =>
    have HW : Hid (true = (decide (k < s.size) && pW (bt s k))) := hW.symm
    have HB : Hid (b = true) := by show b = true; rw [hb, hW]; rfl
    clear hW hb
    go_enter Try.func49, Try.ntmps49
    go_wp2_with fail
    refine (spec_white1 s k _ true HW.out).mono ?_
    rintro e w1 ⟨rfl, rfl⟩
    go_wp2_with fail
    go_ret
    exact ⟨ret_bool HB.out.symm, rfl⟩
  | false =>
    have HW : Hid (false = (decide (k < s.size) && pW (bt s k))) := hW.symm
    have HB : Hid (b = brk s k) := by show b = brk s k; rw [hb, hW]; rfl
    clear hW hb
    go_enter Try.func49, Try.ntmps49
    go_wp2_with fail
    refine (spec_white1 s k _ false HW.out).mono ?_
    rintro e w1 ⟨rfl, rfl⟩
    go_wp2_with fail
    refine (spec_break s k _ b HB.out).mono ?_
    rintro e w1 ⟨rfl, rfl⟩
    go_wp2_with fail
    go_ret
    exact ⟨ret_bool rfl, rfl⟩
theorem eq3 (s : ByteArray) (p : Nat) (h : p + 3 ≤ s.size) (c : UInt8) (b : Bool) (hb : is3 s p c.toNat = b) : ((s.extract p (p + 3)).toList == [c, c, c]) = b := by
  rw [show [c, c, c] = (ByteArray.mk #[c, c, c]).toList from by rw [ByteArray.toList_eq], ← hb, is3_ext s p h, toList_beq, Bool.eq_iff_iff, decide_eq_true_eq, decide_eq_true_eq]
  constructor
  · intro h'; rw [h']
  · intro h'; exact ba_ext h'
end Go.Proofs.Ytmbbmibkjnlkkaa
