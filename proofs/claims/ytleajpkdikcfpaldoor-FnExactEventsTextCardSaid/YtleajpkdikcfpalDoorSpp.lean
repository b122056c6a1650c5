/- The contract of spec.l09Props: an event's anchor and tag, as its line has them. -/
import Derived.Test.YtleajpkdikcfpalDoorEvs
import Derived.WalkLawsBesides
import Derived.WalkSpells
import Derived.WalkMore
namespace Go.Proofs.YtleajpkdikcfpalDoor
open Go.ChangeShapes Go.WideShapes Go.ChangeAt Go.RowKit
def prA (a : ByteArray) : ByteArray := if noB a = true then ByteArray.empty else ⟨#[32, 38]⟩ ++ a
def prT (o t : ByteArray) : ByteArray := if noB t = true then o else o ++ ⟨#[32, 60]⟩ ++ t ++ ⟨#[62]⟩
def propsB (e : Ev) : ByteArray := prT (prA e.anchor) e.tag
theorem prA_size (a : ByteArray) : (prA a).size ≤ a.size + 2 := by
  unfold prA
  split
  · show 0 ≤ _; omega
  · rw [ByteArray.size_append]; show 2 + a.size ≤ _; omega
theorem prT_size (o t : ByteArray) : (prT o t).size ≤ o.size + t.size + 3 := by
  unfold prT
  split
  · omega
  · rw [ByteArray.size_append, ByteArray.size_append, ByteArray.size_append]; show o.size + 2 + t.size + 1 ≤ _; omega
set_option maxHeartbeats 2000000 in
theorem props_any (e : Ev) (w : World) (ha : e.anchor.size ≤ 1048576) (ht : e.tag.size ≤ 1048576) (p : ByteArray) (hp : propsB e = p) :
    Calls Tryd.prog 18 #[.agg e.row] w fun r w' => r = .returned (.string p) ∧ Below w.heap.size w w' := by
  obtain ⟨kind, style, flag, text, anchor, tag, at_, code⟩ := e
  replace ha : anchor.size ≤ 1048576 := ha
  replace ht : tag.size ≤ 1048576 := ht
  have hp' : prT (prA anchor) tag = p := hp
  have z1 := prA_size anchor
  have s1 : (⟨#[32, 38]⟩ : ByteArray).size = 2 := rfl
  have s2 : (⟨#[32, 60]⟩ : ByteArray).size = 2 := rfl
  have s3 : (⟨#[62]⟩ : ByteArray).size = 1 := rfl
  have add1 : ∀ w : World, (Op.stringOp .add (⟨#[32, 38]⟩ : ByteArray) anchor).run Tryd.prog w = .ok (.string (⟨#[32, 38]⟩ ++ anchor)) w := fun w => run_string_add_sum w _ _ (by rw [s1]; omega)
  have add2 : ∀ w : World, (Op.stringOp .add (prA anchor) (⟨#[32, 60]⟩ : ByteArray)).run Tryd.prog w = .ok (.string (prA anchor ++ ⟨#[32, 60]⟩)) w := fun w => run_string_add_sum w _ _ (by rw [s2]; omega)
  have add3 : ∀ w : World, (Op.stringOp .add (prA anchor ++ ⟨#[32, 60]⟩) tag).run Tryd.prog w = .ok (.string (prA anchor ++ ⟨#[32, 60]⟩ ++ tag)) w := fun w => run_string_add_sum w _ _ (by rw [ByteArray.size_append, s2]; omega)
  have add4 : ∀ w : World, (Op.stringOp .add (prA anchor ++ ⟨#[32, 60]⟩ ++ tag) (⟨#[62]⟩ : ByteArray)).run Tryd.prog w = .ok (.string (prA anchor ++ ⟨#[32, 60]⟩ ++ tag ++ ⟨#[62]⟩)) w := fun w => run_string_add_sum w _ _ (by rw [ByteArray.size_append, ByteArray.size_append, s2, s3]; omega)
  unfold Ev.row
  clear hp z1 s1 s2 s3
  have hal : Hid (Below w.heap.size w (w.alloc (.cells #[.int .i64 kind, .int .i64 style, .bool flag, .string text, .string anchor, .string tag, .int .i64 at_, .int .i64 code] 33))) := (Below.refl _ w).alloc (Nat.le_refl _) _
  cases hna : noB anchor with
  | true =>
    have a1 : (anchor.toList == []) = true := hna
    have a2 : (anchor.toList != []) = false := by show (!(anchor.toList == [])) = _; rw [a1]; rfl
    have e1 : prA anchor = ByteArray.empty := if_pos hna
    rw [e1] at add2 add3 add4 hp'
    cases hnt : noB tag with
    | true =>
      have t1 : (tag.toList == []) = true := hnt
      have t2 : (tag.toList != []) = false := by show (!(tag.toList == [])) = _; rw [t1]; rfl
      have HP : Hid (ByteArray.empty = p) := by rw [← hp']; exact (if_pos hnt).symm
      clear hp' add1 add2 add3 add4 hna hnt e1
      go_enter Tryd.func18, Tryd.ntmps18
      go_wp2_with fail
      go_ret
      exact ⟨by rw [← HP.out]; rfl, hal.out⟩
    | false =>
      have t1 : (tag.toList == []) = false := hnt
      have t2 : (tag.toList != []) = true := by show (!(tag.toList == [])) = _; rw [t1]; rfl
      have HP : Hid (ByteArray.empty ++ ⟨#[32, 60]⟩ ++ tag ++ ⟨#[62]⟩ = p) := by rw [← hp']; exact (if_neg (by rw [hnt]; simp)).symm
      clear hp' add1 hna hnt e1
      go_enter Tryd.func18, Tryd.ntmps18
      go_wp2_with fail
      go_ret
      exact ⟨by rw [← HP.out]; rfl, hal.out⟩
  | false =>
    have a1 : (anchor.toList == []) = false := hna
    have a2 : (anchor.toList != []) = true := by show (!(anchor.toList == [])) = _; rw [a1]; rfl
    have e1 : prA anchor = ⟨#[32, 38]⟩ ++ anchor := if_neg (by rw [hna]; simp)
    rw [e1] at add2 add3 add4 hp'
    cases hnt : noB tag with
    | true =>
      have t1 : (tag.toList == []) = true := hnt
      have t2 : (tag.toList != []) = false := by show (!(tag.toList == [])) = _; rw [t1]; rfl
      have HP : Hid (⟨#[32, 38]⟩ ++ anchor = p) := by rw [← hp']; exact (if_pos hnt).symm
      clear hp' add2 add3 add4 hna hnt e1
      go_enter Tryd.func18, Tryd.ntmps18
      go_wp2_with fail
      go_ret
      exact ⟨by rw [← HP.out]; rfl, hal.out⟩
    | false =>
      have t1 : (tag.toList == []) = false := hnt
      have t2 : (tag.toList != []) = true := by show (!(tag.toList == [])) = _; rw [t1]; rfl
      have HP : Hid (⟨#[32, 38]⟩ ++ anchor ++ ⟨#[32, 60]⟩ ++ tag ++ ⟨#[62]⟩ = p) := by rw [← hp']; exact (if_neg (by rw [hnt]; simp)).symm
      clear hp' hna hnt e1
      go_enter Tryd.func18, Tryd.ntmps18
      go_wp2_with fail
      go_ret
      exact ⟨by rw [← HP.out]; rfl, hal.out⟩
end Go.Proofs.YtleajpkdikcfpalDoor
