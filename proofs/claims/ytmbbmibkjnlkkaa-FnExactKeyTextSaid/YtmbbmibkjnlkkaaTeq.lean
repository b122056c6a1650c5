/- Whether two events, or two lists of events, are alike: where they are the same. -/
import Derived.Test.YtmbbmibkjnlkkaaTes
namespace Go.Proofs.Ytmbbmibkjnlkkaa
open Go.ChangeShapes Go.WideShapes Go.ChangeAt Go.RowKit Go.Deep Go.BigFrame
set_option maxHeartbeats 4000000 in
theorem eqE_ (e : Ev) (w : World) :
    Calls Try.prog 22 #[.agg e.row, .agg e.row] w fun r w' => r = .returned (.bool true) ∧ Below w.heap.size w w' := by
  obtain ⟨kind, style, flag, text, anchor, tag, at_, code⟩ := e
  show Calls Try.prog 22 #[.agg #[.int .i64 kind, .int .i64 style, .bool flag, .string text, .string anchor, .string tag, .int .i64 at_, .int .i64 code], .agg #[.int .i64 kind, .int .i64 style, .bool flag, .string text, .string anchor, .string tag, .int .i64 at_, .int .i64 code]] w fun r w' => r = .returned (.bool true) ∧ Below w.heap.size w w'
  have h1 : (kind != kind) = false := by simp
  have h2 : (style != style) = false := by simp
  have h3 : (flag != flag) = false := by cases flag <;> rfl
  have h4 : (text.toList != text.toList) = false := by simp
  have h5 : (anchor.toList != anchor.toList) = false := by simp
  have h6 : (tag.toList != tag.toList) = false := by simp
  have h7 : (at_ != at_) = false := by simp
  have h8 : (code != code) = false := by simp
  go_enter Try.func22, Try.ntmps22
  go_wp2_with fail
  go_ret
  exact ⟨rfl, ((Below.refl _ w).alloc (Nat.le_refl _) _).alloc (by simp) _⟩
set_option maxHeartbeats 8000000 in
theorem eqEs_ (w : World) (v u : Value) (es : List Ev) (hV : SlE w v es) (hU : SlE w u es) (hl : es.length ≤ 16777216) :
    Calls Try.prog 9 #[v, u] w fun e w' => e = .returned (.bool true) ∧ Below w.heap.size w w' := by
  obtain ⟨a, c, rfl⟩ := hV.sl
  obtain ⟨a', c', rfl⟩ := hU.sl
  have HV : Hid (SlE w (.slice a es.length c) es) := hV
  have HU : Hid (SlE w (.slice a' es.length c') es) := hU
  clear hV hU
  go_enter Try.func9, Try.ntmps9
  go_wp2_with fail
  go_loopw [5] (fun i wr => ∃ k : Nat, k ≤ es.length ∧ i = .int .i64 k ∧ Below w.heap.size w wr) (fun i _ => es.length - (intOf i).toNat)
  case atStart => exact ⟨0, Nat.zero_le _, rfl, Below.refl _ _⟩
  case round =>
    obtain ⟨k, hk, rfl, hb⟩ := hrel
    by_cases hlt : k < es.length
    · obtain ⟨e, hx⟩ : ∃ h, es[k]? = some h := ⟨_, List.getElem?_eq_getElem hlt⟩
      obtain ⟨b, off, rfl, _, _⟩ := HV.out.at hb hx
      obtain ⟨b', off', rfl, _, _⟩ := HU.out.at hb hx
      have c1 : ∀ m : Bw wr, EvAt m.val b (off + k * 8) e := fun m => by
        obtain ⟨_, _, e1, _, h1⟩ := HV.out.at (hb.trans (m.ok.mono hb.size)) hx
        injection e1 with e1
        injection e1 with e1 e2
        subst e1
        subst e2
        exact h1
      have c2 : ∀ m : Bw wr, EvAt m.val b' (off' + k * 8) e := fun m => by
        obtain ⟨_, _, e1, _, h1⟩ := HU.out.at (hb.trans (m.ok.mono hb.size)) hx
        injection e1 with e1
        injection e1 with e1 e2
        subst e1
        subst e2
        exact h1
      have d0 := fun m => (c1 m).c0
      have d1 := fun m => (c1 m).c1
      have d2 := fun m => (c1 m).c2
      have d3 := fun m => (c1 m).c3
      have d4 := fun m => (c1 m).c4
      have d5 := fun m => (c1 m).c5
      have d6 := fun m => (c1 m).c6
      have d7 := fun m => (c1 m).c7
      have g0 := fun m => (c2 m).c0
      have g1 := fun m => (c2 m).c1
      have g2 := fun m => (c2 m).c2
      have g3 := fun m => (c2 m).c3
      have g4 := fun m => (c2 m).c4
      have g5 := fun m => (c2 m).c5
      have g6 := fun m => (c2 m).c6
      have g7 := fun m => (c2 m).c7
      have hE := Bw.calls (w := wr) (fun w' _ => eqE_ e w')
      have hne := Bw.some wr
      have hlt' : (k : Int) < (es.length : Int) := by omega
      clear hx c1 c2
      obtain ⟨kind, style, flag, text, anchor, tag, at_, code⟩ := e
      unfold Ev.row at hE
      go_wp2_with fail
      refine wp_region_bw (w0 := wr) (by kernel_rfl) (by kernel_rfl) (Below.refl _ _) ?_
      repeat (go_big_quiet_step ((go_at_call 22; exact hE _)))
      refine wpQuiet_nil ?_
      rintro _ ⟨m, rfl⟩
      have hB1 : Below w.heap.size w m.val := hb.trans (m.ok.mono hb.size)
      generalize m.val = w1 at *
      clear d0 d1 d2 d3 d4 d5 d6 d7 g0 g1 g2 g3 g4 g5 g6 g7 hE hne
      go_wp2_with fail
      go_roundw
      case rel => exact ⟨k + 1, hlt, by go_num, hB1⟩
      case measure => simp [intOf]; omega
    · go_wp2_with fail
      go_ret
      exact ⟨rfl, hb⟩
end Go.Proofs.Ytmbbmibkjnlkkaa
