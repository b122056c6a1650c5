/- The laws on SingleAt, EscapeAt and DoubleAt, walked, over impl's contracts. -/
import Derived.Test.YtfbgdkfnidghcajDoorSdb
namespace Go.Proofs.YtfbgdkfnidghcajDoor
open Go.ChangeShapes Go.WideShapes Go.ChangeAt Go.RowKit Go.Deep
def ImplSi : Prop := ∀ (s : ByteArray) (p : Int) (w : World) (T : ByteArray) (E C : Nat), s.size ≤ 1048576 → (Lit.int .i64 p).wf = true → sgAt s (cl s.size p) = (T, E, C) →
    Calls Tryd.prog 5 #[.string s, .int .i64 p] w fun e w' => e = .returned (.tuple #[.string T, .int .i64 (E : Int), .int .i64 (C : Int)]) ∧ Below w.heap.size w w'
theorem law_singleAt (HI : ImplSi) (s : ByteArray) (p : Int) (w0 : s.size ≤ maxLen) (w1 : (Lit.int .i64 p).wf = true) (w : World) :
    Calls Tryd.prog 3 #[.string s, .int .i64 p] w fun e w' => e = .returned (.bool true) ∧ Below w.heap.size w w' := by
  unfold maxLen at w0
  by_cases hbig : (1048576 : Int) < (s.size : Int)
  · clear w1
    go_enter Tryd.func3, Tryd.ntmps3
    go_wp2_with fail
    go_ret
    exact ⟨rfl, Below.refl _ _⟩
  · have hs : s.size ≤ 1048576 := by omega
    obtain ⟨T, E, C, hr⟩ : ∃ T E C, sgAt s (cl s.size p) = (T, E, C) := ⟨_, _, _, rfl⟩
    have cS := spec_singleAt s p w hs T E C hr
    have cI : Hid (∀ w', Calls Tryd.prog 5 #[.string s, .int .i64 p] w' fun e w'' => e = .returned (.tuple #[.string T, .int .i64 (E : Int), .int .i64 (C : Int)]) ∧ Below w'.heap.size w' w'') := fun w' => HI s p w' T E C hs w1 hr
    clear w1 hs hr
    have hT : (T.toList != T.toList) = false := by simp
    go_enter Tryd.func3, Tryd.ntmps3
    go_wp2_with fail
    refine cS.mono ?_
    rintro e w1 ⟨rfl, hb1⟩
    clear cS
    go_wp2_with fail
    refine (cI.out w1).mono ?_
    rintro e w2 ⟨rfl, hb2⟩
    clear cI
    go_wp2_with fail
    go_ret
    exact ⟨rfl, hb1.trans (hb2.mono hb1.size)⟩
end Go.Proofs.YtfbgdkfnidghcajDoor
