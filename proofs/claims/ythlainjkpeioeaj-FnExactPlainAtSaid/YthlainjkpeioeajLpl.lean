/- The laws on PlainFirst, PlainEnd and PlainAt, walked, over impl's contracts. -/
import Derived.Test.YthlainjkpeioeajSpa
namespace Go.Proofs.Ythlainjkpeioeaj
open Go.ChangeShapes Go.WideShapes Go.ChangeAt Go.RowKit Go.Deep
/-- What is asked of impl. -/
def ImplPf : Prop := ∀ (s : ByteArray) (p : Int) (fl : Bool) (w : World), s.size ≤ 1048576 → (Lit.int .i64 p).wf = true →
    Calls Try.prog 16 #[.string s, .int .i64 p, .bool fl] w fun e w' => e = .returned (.bool (plF s (cl s.size p) fl)) ∧ Below w.heap.size w w'
def ImplPe : Prop := ∀ (s : ByteArray) (p : Int) (fl : Bool) (w : World), s.size ≤ 1048576 → (Lit.int .i64 p).wf = true →
    Calls Try.prog 18 #[.string s, .int .i64 p, .bool fl] w fun e w' => e = .returned (.int .i64 (plE s (cl s.size p) fl : Nat)) ∧ Below w.heap.size w w'
def ImplPa : Prop := ∀ (s : ByteArray) (p n : Int) (fl : Bool) (w : World) (T : ByteArray) (E : Nat) (b : Bool), s.size ≤ 1048576 → (Lit.int .i64 p).wf = true → (Lit.int .i64 n).wf = true → plAt s (cl s.size p) n fl = (T, E, b) →
    Calls Try.prog 20 #[.string s, .int .i64 p, .int .i64 n, .bool fl] w fun e w' => e = .returned (.tuple #[.string T, .int .i64 (E : Int), .bool b]) ∧ Below w.heap.size w w'
theorem law_plainFirst (HI : ImplPf) (s : ByteArray) (p : Int) (fl : Bool) (w0 : s.size ≤ maxLen) (w1 : (Lit.int .i64 p).wf = true) (w : World) :
    Calls Try.prog 5 #[.string s, .int .i64 p, .bool fl] w fun e w' => e = .returned (.bool true) ∧ Below w.heap.size w w' := by
  unfold maxLen at w0
  by_cases hbig : (1048576 : Int) < (s.size : Int)
  · clear w1
    go_enter Try.func5, Try.ntmps5
    go_wp2_with fail
    go_ret
    exact ⟨rfl, Below.refl _ _⟩
  · have hs : s.size ≤ 1048576 := by omega
    have hm : s.size ≤ mx := by unfold mx; omega
    have cS := spec_plainFirst s p fl w hm _ rfl
    have cI : Hid (∀ w', Calls Try.prog 16 #[.string s, .int .i64 p, .bool fl] w' fun e w'' => e = .returned (.bool (plF s (cl s.size p) fl)) ∧ Below w'.heap.size w' w'') := fun w' => HI s p fl w' hs w1
    generalize plF s (cl s.size p) fl = r at *
    clear w1 hm hs
    go_enter Try.func5, Try.ntmps5
    go_wp2_with fail
    refine cS.mono ?_
    rintro e w1 ⟨rfl, hb1⟩
    clear cS
    go_wp2_with fail
    refine (cI.out w1).mono ?_
    rintro e w2 ⟨rfl, hb2⟩
    clear cI
    cases r with
    | true =>
      go_wp2_with fail
      go_ret
      exact ⟨rfl, hb1.trans (hb2.mono hb1.size)⟩
    | false =>
      go_wp2_with fail
      go_ret
      exact ⟨rfl, hb1.trans (hb2.mono hb1.size)⟩
theorem law_plainEnd (HI : ImplPe) (s : ByteArray) (p : Int) (fl : Bool) (w0 : s.size ≤ maxLen) (w1 : (Lit.int .i64 p).wf = true) (w : World) :
    Calls Try.prog 6 #[.string s, .int .i64 p, .bool fl] w fun e w' => e = .returned (.bool true) ∧ Below w.heap.size w w' := by
  unfold maxLen at w0
  by_cases hbig : (1048576 : Int) < (s.size : Int)
  · clear w1
    go_enter Try.func6, Try.ntmps6
    go_wp2_with fail
    go_ret
    exact ⟨rfl, Below.refl _ _⟩
  · have hs : s.size ≤ 1048576 := by omega
    have hm : s.size ≤ mx := by unfold mx; omega
    have cS := spec_plainEnd s p fl w hm _ rfl
    have cI : Hid (∀ w', Calls Try.prog 18 #[.string s, .int .i64 p, .bool fl] w' fun e w'' => e = .returned (.int .i64 (plE s (cl s.size p) fl : Nat)) ∧ Below w'.heap.size w' w'') := fun w' => HI s p fl w' hs w1
    generalize plE s (cl s.size p) fl = r at *
    clear w1 hm hs
    go_enter Try.func6, Try.ntmps6
    go_wp2_with fail
    refine cS.mono ?_
    rintro e w1 ⟨rfl, rfl⟩
    clear cS
    go_wp2_with fail
    refine (cI.out w1).mono ?_
    rintro e w2 ⟨rfl, hb2⟩
    clear cI
    go_wp2_with fail
    go_ret
    exact ⟨rfl, hb2⟩
theorem law_plainAt (HI : ImplPa) (s : ByteArray) (p n : Int) (fl : Bool) (w0 : s.size ≤ maxLen) (w1 : (Lit.int .i64 p).wf = true) (w2 : (Lit.int .i64 n).wf = true) (w : World) :
    Calls Try.prog 7 #[.string s, .int .i64 p, .int .i64 n, .bool fl] w fun e w' => e = .returned (.bool true) ∧ Below w.heap.size w w' := by
  unfold maxLen at w0
  by_cases hbig : (1048576 : Int) < (s.size : Int)
  · clear w1 w2
    go_enter Try.func7, Try.ntmps7
    go_wp2_with fail
    go_ret
    exact ⟨rfl, Below.refl _ _⟩
  · have hs : s.size ≤ 1048576 := by omega
    obtain ⟨T, E, b, hr⟩ : ∃ T E b, plAt s (cl s.size p) n fl = (T, E, b) := ⟨_, _, _, rfl⟩
    have cS := spec_plainAt s p n fl w hs T E b hr
    have cI : Hid (∀ w', Calls Try.prog 20 #[.string s, .int .i64 p, .int .i64 n, .bool fl] w' fun e w'' => e = .returned (.tuple #[.string T, .int .i64 (E : Int), .bool b]) ∧ Below w'.heap.size w' w'') := fun w' => HI s p n fl w' T E b hs w1 w2 hr
    clear w1 w2 hs hr
    have hT : (T.toList != T.toList) = false := by simp
    go_enter Try.func7, Try.ntmps7
    go_wp2_with fail
    refine cS.mono ?_
    rintro e w1 ⟨rfl, hb1⟩
    clear cS
    go_wp2_with fail
    refine (cI.out w1).mono ?_
    rintro e w2 ⟨rfl, hb2⟩
    clear cI
    cases b with
    | true =>
      go_wp2_with fail
      go_ret
      exact ⟨rfl, hb1.trans (hb2.mono hb1.size)⟩
    | false =>
      go_wp2_with fail
      go_ret
      exact ⟨rfl, hb1.trans (hb2.mono hb1.size)⟩
end Go.Proofs.Ythlainjkpeioeaj
