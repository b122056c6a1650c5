/- The contract of spec.EventOk. -/
import Derived.Test.YtmbbmibkjnlkkaaSevA
import Derived.Test.YtmbbmibkjnlkkaaSevB
import Derived.Test.YtmbbmibkjnlkkaaSevC
import Derived.Test.YtmbbmibkjnlkkaaSevD
import Derived.Test.YtmbbmibkjnlkkaaSevE
namespace Go.Proofs.Ytmbbmibkjnlkkaa
open Go.ChangeShapes Go.WideShapes Go.ChangeAt Go.RowKit
set_option maxHeartbeats 4000000 in
theorem ev_out (kind style : Int) (flag : Bool) (text anchor tag : ByteArray) (at_ code : Int) (w : World) (hk : kind < 1 ∨ 10 < kind) :
    Calls Try.prog 29 #[.agg (Ev.row ⟨kind, style, flag, text, anchor, tag, at_, code⟩)] w fun e w' => e = .returned (.bool false) ∧ Below w.heap.size w w' := by
  have h3 : (kind == 3) = false := by rw [beq_eq_false_iff_ne]; omega
  have h4 : (kind == 4) = false := by rw [beq_eq_false_iff_ne]; omega
  have h5 : (kind == 5) = false := by rw [beq_eq_false_iff_ne]; omega
  unfold Ev.row
  rcases hk with h | h
  · go_enter Try.func29, Try.ntmps29
    go_wp2_with fail
    go_ret
    exact ⟨rfl, (Below.refl _ w).alloc (Nat.le_refl _) _⟩
  · have h1 : ¬ kind < 1 := by omega
    go_enter Try.func29, Try.ntmps29
    go_wp2_with fail
    go_ret
    exact ⟨rfl, (Below.refl _ w).alloc (Nat.le_refl _) _⟩
theorem spec_eventOk (e : Ev) (w : World) (hsz : e.text.size ≤ mx ∧ e.anchor.size ≤ mx ∧ e.tag.size ≤ mx) (b : Bool) (hb : evOk e = b) :
    Calls Try.prog 29 #[.agg e.row] w fun r w' => r = .returned (.bool b) ∧ Below w.heap.size w w' := by
  obtain ⟨kind, style, flag, text, anchor, tag, at_, code⟩ := e
  by_cases hk : kind < 1 ∨ 10 < kind
  · obtain rfl : false = b := by
      rw [← hb]
      unfold evOk
      rw [if_pos (by rcases hk with h | h; exact .inl h; exact .inr (.inl h))]
    exact ev_out kind style flag text anchor tag at_ code w hk
  · rcases (show kind = 1 ∨ kind = 2 ∨ kind = 3 ∨ kind = 4 ∨ kind = 5 ∨ kind = 6 ∨ kind = 7 ∨ kind = 8 ∨ kind = 9 ∨ kind = 10 by omega) with rfl | rfl | rfl | rfl | rfl | rfl | rfl | rfl | rfl | rfl
    · exact ev_1 style flag text anchor tag at_ code w hsz b hb
    · exact ev_2 style flag text anchor tag at_ code w hsz b hb
    · exact ev_3 style flag text anchor tag at_ code w hsz b hb
    · exact ev_4 style flag text anchor tag at_ code w hsz b hb
    · exact ev_5 style flag text anchor tag at_ code w hsz b hb
    · exact ev_6 style flag text anchor tag at_ code w hsz b hb
    · exact ev_7 style flag text anchor tag at_ code w hsz b hb
    · exact ev_8 style flag text anchor tag at_ code w hsz b hb
    · exact ev_9 style flag text anchor tag at_ code w hsz b hb
    · exact ev_10 style flag text anchor tag at_ code w hsz b hb
end Go.Proofs.Ytmbbmibkjnlkkaa
