/- The contract of impl.lineBehind. -/
import Derived.Test.YthlainjkpeioeajIsg
import Derived.Test.YthlainjkpeioeajPls
namespace Go.Proofs.Ythlainjkpeioeaj
open Go.ChangeShapes Go.WideShapes Go.ChangeAt Go.RowKit Go.Shelf
theorem sgq10_yes {s : ByteArray} {e : Nat} (h : sgq p10q s e = true) : e < s.size ∧ bt s e = 10 := by
  unfold sgq p10q at h
  simpa using h
theorem sgq10_no {s : ByteArray} {e : Nat} (h : sgq p10q s e = false) : ¬ (e < s.size ∧ bt s e = 10) := by
  rintro ⟨h1, h2⟩
  unfold sgq p10q at h
  rw [h2] at h
  simp at h
  omega
/-- What is left to be found. -/
def LbAt (s : ByteArray) (e m : Nat) (R : Nat × Nat × Bool) : Prop := ∃ f, s.size < f + e ∧ lbF s f e m = R
theorem LbAt.none {s : ByteArray} {e m : Nat} {R : Nat × Nat × Bool} (h : LbAt s e m R) (hn : ¬ (e < s.size ∧ bt s e = 10)) : R = (0, 0, false) := by
  obtain ⟨f, _, h⟩ := h
  rw [← h, lbF_none hn]
theorem LbAt.hit {s : ByteArray} {e m : Nat} {R : Nat × Nat × Bool} (h : LbAt s e m R) (hn : e < s.size ∧ bt s e = 10) (hl : lone s (e + 1) = false) : R = (e + 1, m, true) := by
  obtain ⟨f, h1, h⟩ := h
  cases f with
  | zero => omega
  | succ f => rw [← h, lbF, if_pos hn, if_neg (by rw [hl]; simp)]
theorem LbAt.next {s : ByteArray} {e m : Nat} {R : Nat × Nat × Bool} (h : LbAt s e m R) (hn : e < s.size ∧ bt s e = 10) (hl : lone s (e + 1) = true) : LbAt s (endL s (e + 1)) (m + 1) R := by
  obtain ⟨f, h1, h⟩ := h
  cases f with
  | zero => omega
  | succ f =>
    rw [lbF, if_pos hn, if_pos hl] at h
    have := endL_ge s (e + 1)
    exact ⟨f, by omega, h⟩
set_option maxHeartbeats 2000000 in
theorem lineBehind_any (s : ByteArray) (e0 : Nat) (w : World) (hs : s.size ≤ mx) (he : e0 ≤ s.size) (q m : Nat) (ok : Bool) (hR : lbR s e0 = (q, m, ok)) :
    Calls Try.prog 68 #[.string s, .int .i64 (e0 : Int)] w fun r w' => r = .returned (.tuple #[.int .i64 (q : Int), .int .i64 (m : Int), .bool ok]) ∧ Below w.heap.size w w' := by
  have cW := white_any_nat s e0 _ w hs he rfl
  have HA0 : Hid (LbAt s (wh s e0) 0 (q, m, ok)) := ⟨s.size + 1, by omega, hR⟩
  have hw := wh_le s e0 he
  have hs' : s.size < 9223372036854775807 := by unfold mx at hs; omega
  have HS : Hid (s.size ≤ mx) := hs
  generalize wh s e0 = x0 at *
  clear hR hs he
  go_enter Try.func68, Try.ntmps68
  go_wp2_with fail
  refine cW.mono ?_
  rintro e w1 ⟨rfl, hb1⟩
  clear cW
  go_wp2_with fail
  go_loopw [7, 8] (fun ev mv wr => ∃ (e m1 : Nat), ev = .int .i64 (e : Int) ∧ mv = .int .i64 (m1 : Int) ∧ e ≤ s.size ∧ m1 ≤ e ∧ Hid (LbAt s e m1 (q, m, ok)) ∧ Hid (Below w.heap.size w wr)) (fun ev _ _ => s.size - (intOf ev).toNat)
  case atStart => exact ⟨x0, 0, rfl, rfl, hw, Nat.zero_le _, HA0, hb1⟩
  case round =>
    clear HA0 hw hb1
    obtain ⟨e, m1, rfl, rfl, hes, hme, HA, HBl⟩ := hrel
    cases hsg : sgq p10q s e with
    | false =>
      have cS := signQ s ⟨#[10]⟩ e p10q wr _ p10q_signs hsg.symm
      have h3 := HA.out.none (sgq10_no hsg)
      obtain ⟨rfl, h4⟩ : q = 0 ∧ (m, ok) = (0, false) := by injection h3 with a b; exact ⟨a, b⟩
      obtain ⟨rfl, rfl⟩ : m = 0 ∧ ok = false := by injection h4 with a b; exact ⟨a, b⟩
      clear hsg HA h3 h4
      go_wp2_with fail
      refine cS.mono ?_
      rintro e w2 ⟨rfl, hb2⟩
      clear cS
      go_wp2_with fail
      go_ret3
      exact ⟨rfl, HBl.out.trans (hb2.mono HBl.out.size)⟩
    | true =>
      have cS := signQ s ⟨#[10]⟩ e p10q wr _ p10q_signs hsg.symm
      have hy := sgq10_yes hsg
      have hlt := hy.1
      have cL : Hid (∀ w, Calls Try.prog 74 #[.string s, .int .i64 ((e : Int) + 1)] w fun r w' => r = .returned (.bool (lone s (e + 1))) ∧ Below w.heap.size w w') := fun w => by
        have := lone_any s ((e + 1 : Nat) : Int) w HS.out
        rw [cl_nat _ _ (by omega)] at this
        exact this
      have he' : (e : Int) < 9223372036854775807 := by omega
      cases hl : lone s (e + 1) with
      | false =>
        have h3 := HA.out.hit hy hl
        obtain ⟨rfl, h4⟩ : q = e + 1 ∧ (m, ok) = (m1, true) := by injection h3 with a b; exact ⟨a, b⟩
        obtain ⟨rfl, rfl⟩ : m = m1 ∧ ok = true := by injection h4 with a b; exact ⟨a, b⟩
        rw [hl] at cL
        clear hsg HA h3 h4 hl hy
        go_wp2_with fail
        refine cS.mono ?_
        rintro r w2 ⟨rfl, hb2⟩
        clear cS
        go_wp2_with fail
        refine (cL.out w2).mono ?_
        rintro r w3 ⟨rfl, hb3⟩
        clear cL
        have HB3 : Hid (Below w.heap.size w w3) := by
          have h1 := HBl.out.trans (hb2.mono HBl.out.size)
          exact h1.trans (hb3.mono h1.size)
        clear hb2 hb3
        go_wp2_with fail
        go_ret3
        exact ⟨rfl, HB3.out⟩
      | true =>
        have HN : Hid (LbAt s (endL s (e + 1)) (m1 + 1) (q, m, ok)) := HA.out.next hy hl
        have g1 := endL_ge s (e + 1)
        have g2 := endL_le (s := s) (k := e + 1) (by omega)
        have cE : Hid (∀ w, Calls Try.prog 75 #[.string s, .int .i64 ((e : Int) + 1)] w fun r w' => r = .returned (.int .i64 (endL s (e + 1) : Nat)) ∧ Below w.heap.size w w') := fun w => endAt_any_nat s (e + 1) _ w HS.out (by omega) rfl
        rw [hl] at cL
        generalize endL s (e + 1) = E at *
        have hm' : (m1 : Int) < 9223372036854775807 := by omega
        have HG1 : Hid (e + 1 ≤ E) := g1
        have HME : Hid (m1 ≤ e) := hme
        clear hsg HA hl hy g1 hme
        go_wp2_with fail
        refine cS.mono ?_
        rintro r w2 ⟨rfl, hb2⟩
        clear cS
        go_wp2_with fail
        refine (cL.out w2).mono ?_
        rintro r w3 ⟨rfl, hb3⟩
        clear cL
        go_wp2_with fail
        refine (cE.out w3).mono ?_
        rintro r w4 ⟨rfl, hb4⟩
        clear cE
        have HB4 : Hid (Below w.heap.size w w4) := by
          have h1 := HBl.out.trans (hb2.mono HBl.out.size)
          have h2 := h1.trans (hb3.mono h1.size)
          exact h2.trans (hb4.mono h2.size)
        clear hb2 hb3 hb4
        go_wp2_with fail
        go_roundw
        case rel => exact ⟨E, m1 + 1, rfl, by go_num, g2, by have := HG1.out; have := HME.out; omega, HN, HB4⟩
        case measure => have := HG1.out; simp [intOf]; omega
end Go.Proofs.Ythlainjkpeioeaj
