/- impl.begins tells whether a place is the beginning of a line. -/
import Derived.Test.YtjpcmmfmdoglkalGreatDoorNat
namespace Go.Proofs.YtjpcmmfmdoglkalGreatDoor
open Go.ChangeShapes Go.WideShapes Go.ChangeAt Go.RowKit
theorem begins_any (s : ByteArray) (k : Nat) (w : World) (b : Bool) (hs : s.size ≤ mx) (hk : k ≤ s.size) (hb : b = beg s k) :
    Calls Tryz.prog 176 #[.string s, .int .i64 (k : Int)] w fun e w' => e = .returned (.bool b) ∧ w' = w := by
  subst hb
  unfold mx at hs
  by_cases h0 : k = 0
  · subst h0
    go_enter Tryz.func176, Tryz.ntmps176
    go_wp2_with fail
    go_ret
    exact ⟨rfl, rfl⟩
  · obtain ⟨j, rfl⟩ : ∃ j, k = j + 1 := ⟨k - 1, by omega⟩
    have hj : j < s.size := by omega
    have hg := bt_get s j hj
    have HP : Hid (beg s (j + 1) = (((s[j]'hj).toNat : Int) == 10)) := by
      show beg s (j + 1) = (((s[j]'hj).toNat : Int) == 10)
      rw [hg, Bool.eq_iff_iff]
      simp [beg]; omega
    clear hg h0
    go_enter Tryz.func176, Tryz.ntmps176
    go_wp2_with fail
    go_ret
    exact ⟨ret_bool (by rw [HP.out]; first | rfl | (rw [show (((j : Int) + 1) == 0) = false from by rw [beq_eq_false_iff_ne]; omega, Bool.false_or])), rfl⟩
end Go.Proofs.YtjpcmmfmdoglkalGreatDoor
