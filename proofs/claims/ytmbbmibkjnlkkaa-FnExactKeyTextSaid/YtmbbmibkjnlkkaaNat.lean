/- Contracts at places of the text; the small questions of both sides: is there a break, is it the beginning of a line. -/
import Derived.Test.YtmbbmibkjnlkkaaEnd
namespace Go.Proofs.Ytmbbmibkjnlkkaa
open Go.ChangeShapes Go.WideShapes Go.ChangeAt Go.RowKit
theorem bring_nat (s : ByteArray) (k : Nat) (w : World) (hs : s.size ≤ mx) (hk : k ≤ s.size) :
    Calls Try.prog 74 #[.string s, .int .i64 (k : Int)] w fun e w' => e = .returned (.int .i64 (k : Int)) ∧ w' = w := by
  have := bring_any s (k : Int) w hs
  rw [cl_nat _ _ hk] at this
  exact this
theorem spec_break (s : ByteArray) (k : Nat) (w : World) (b : Bool) (hb : b = brk s k) :
    Calls Try.prog 58 #[.string s, .int .i64 (k : Int)] w fun e w' => e = .returned (.bool b) ∧ w' = w := by
  subst hb
  by_cases hlt : k < s.size
  · have hg := bt_get s k hlt
    have HP : Hid (brk s k = (((s[k]'hlt).toNat : Int) == 10)) := by
      show brk s k = (((s[k]'hlt).toNat : Int) == 10)
      rw [hg, Bool.eq_iff_iff]
      simp [brk]; omega
    clear hg
    go_enter Try.func58, Try.ntmps58
    go_wp2_with fail
    go_ret
    exact ⟨ret_bool (by rw [HP.out]; try rw [decide_eq_false (by omega), Bool.false_or]), rfl⟩
  · have HP : Hid (brk s k = true) := by
      show brk s k = true
      unfold brk; rw [decide_eq_true (by omega)]; rfl
    rw [HP.out]
    go_enter Try.func58, Try.ntmps58
    go_wp2_with fail
    go_ret
    exact ⟨rfl, rfl⟩
theorem ret_tn {a c : Int} {b d : Bool} (h : a = c) (h' : b = d) : Ending.returned (.tuple #[.int .i64 a, .bool b]) = .returned (.tuple #[.int .i64 c, .bool d]) := by rw [h, h']
end Go.Proofs.Ytmbbmibkjnlkkaa
