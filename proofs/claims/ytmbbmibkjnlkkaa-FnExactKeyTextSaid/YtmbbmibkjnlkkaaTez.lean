/- An event that came in: how large it is, and a copy of it. -/
import Derived.Test.YtmbbmibkjnlkkaaEvl
import Derived.WalkLawsBesides
import Derived.WalkSpells
import Derived.WalkMore
import Derived.Handy
import Derived.Laws.ResultCell
namespace Go.Proofs.Ytmbbmibkjnlkkaa
open Go.ChangeShapes Go.WideShapes Go.ChangeAt Go.RowKit
def szE (e : Ev) (l : Int) : Int :=
  if l - e.text.size < 0 then -1 else if l - e.text.size - e.anchor.size < 0 then -1 else if l - e.text.size - e.anchor.size - e.tag.size < 0 then -1 else l - e.text.size - e.anchor.size - e.tag.size
theorem szE_cases (e : Ev) (l : Int) : szE e l = -1 ∨ (szE e l = l - e.text.size - e.anchor.size - e.tag.size ∧ 0 ≤ l - e.text.size - e.anchor.size - e.tag.size) := by
  unfold szE
  split
  · exact .inl rfl
  · split
    · exact .inl rfl
    · split
      · exact .inl rfl
      · exact .inr ⟨rfl, by omega⟩
set_option maxHeartbeats 4000000 in
theorem szE_any (e : Ev) (l : Int) (w : World) (l0 : 0 ≤ l) (l1 : l ≤ 1048576) (hw : wideE e) :
    Calls Try.prog 16 #[.agg e.row, .int .i64 l] w fun r w' => r = .returned (.int .i64 (szE e l)) ∧ Below w.heap.size w w' := by
  obtain ⟨kind, style, flag, text, anchor, tag, at_, code⟩ := e
  obtain ⟨z1, z2, z3⟩ : text.size ≤ 9223372036854775807 ∧ anchor.size ≤ 9223372036854775807 ∧ tag.size ≤ 9223372036854775807 := hw
  show Calls Try.prog 16 #[.agg #[.int .i64 kind, .int .i64 style, .bool flag, .string text, .string anchor, .string tag, .int .i64 at_, .int .i64 code], .int .i64 l] w fun r w' => r = .returned (.int .i64 (if l - text.size < 0 then -1 else if l - text.size - anchor.size < 0 then -1 else if l - text.size - anchor.size - tag.size < 0 then -1 else l - text.size - anchor.size - tag.size)) ∧ Below w.heap.size w w'
  have hal : Hid (Below w.heap.size w (w.alloc (.cells #[.int .i64 kind, .int .i64 style, .bool flag, .string text, .string anchor, .string tag, .int .i64 at_, .int .i64 code] 36))) := (Below.refl _ w).alloc (Nat.le_refl _) _
  by_cases h1 : l - (text.size : Int) < 0
  · rw [if_pos h1]
    go_enter Try.func16, Try.ntmps16
    go_wp2_with fail
    go_ret
    exact ⟨rfl, hal.out⟩
  · rw [if_neg h1]
    by_cases h2 : l - (text.size : Int) - (anchor.size : Int) < 0
    · rw [if_pos h2]
      go_enter Try.func16, Try.ntmps16
      go_wp2_with fail
      go_ret
      exact ⟨rfl, hal.out⟩
    · rw [if_neg h2]
      by_cases h3 : l - (text.size : Int) - (anchor.size : Int) - (tag.size : Int) < 0
      · rw [if_pos h3]
        go_enter Try.func16, Try.ntmps16
        go_wp2_with fail
        go_ret
        exact ⟨rfl, hal.out⟩
      · rw [if_neg h3]
        go_enter Try.func16, Try.ntmps16
        go_wp2_with fail
        go_ret
        exact ⟨rfl, hal.out⟩
set_option maxHeartbeats 4000000 in
theorem toE_any (e : Ev) (w : World) :
    Calls Try.prog 19 #[.agg e.row] w fun r w' => r = .returned (.agg e.row) ∧ Below w.heap.size w w' := by
  obtain ⟨kind, style, flag, text, anchor, tag, at_, code⟩ := e
  obtain ⟨R, hR⟩ : ∃ R, R = #[Value.int .i64 kind, .int .i64 style, .bool flag, .string text, .string anchor, .string tag, .int .i64 at_, .int .i64 code] := ⟨_, rfl⟩
  show Calls Try.prog 19 #[.agg #[.int .i64 kind, .int .i64 style, .bool flag, .string text, .string anchor, .string tag, .int .i64 at_, .int .i64 code]] w fun r w' => r = .returned (.agg #[.int .i64 kind, .int .i64 style, .bool flag, .string text, .string anchor, .string tag, .int .i64 at_, .int .i64 code]) ∧ Below w.heap.size w w'
  have hF : Hid ((((w.alloc (.cells R 36)).alloc (.cells R 38)).alloc (.cells R 38)).heap[w.heap.size + 1]? = some (.cells R 38 (0, 0))) := by
    show ((((w.heap.push _).push _).push _)[w.heap.size + 1]? = _)
    rw [Array.getElem?_push, if_neg (by simp), Array.getElem?_push, if_pos (by simp)]
  have hB : Hid (Below w.heap.size w (((w.alloc (.cells R 36)).alloc (.cells R 38)).alloc (.cells R 38))) := (((Below.refl _ w).alloc (Nat.le_refl _) _).alloc (by simp) _).alloc (by simp <;> omega) _
  rw [hR] at hF hB
  clear hR R
  go_enter Try.func19, Try.ntmps19
  go_wp2_with fail
  refine bodyPost_ret (results_cell_row rfl _ _ (w.heap.size + 1) 38 _ (0, 0) _ rfl hF.out Try.underlying38 rfl (by kernel_rfl)) rfl ?_
  exact ⟨rfl, hB.out⟩
end Go.Proofs.Ytmbbmibkjnlkkaa
