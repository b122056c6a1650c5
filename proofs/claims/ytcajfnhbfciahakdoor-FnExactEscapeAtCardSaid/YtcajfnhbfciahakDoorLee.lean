/- The law on EscapeAt, walked, where the variable of the library holds an error. -/
import Derived.Test.YtcajfnhbfciahakDoorIes
namespace Go.Proofs.YtcajfnhbfciahakDoor
open Go.ChangeShapes Go.WideShapes Go.ChangeAt Go.RowKit Go.Deep
set_option linter.unusedVariables false
theorem law_escapeAtV (s : ByteArray) (p : Int) (w0 : s.size ≤ maxLen) (w1 : (Lit.int .i64 p).wf = true) (w : World) (hv : ErrVar w) :
    Calls Tryd.prog 3 #[.string s, .int .i64 p] w fun e w' => e = .returned (.bool true) ∧ Below w.heap.size w w' := by
  unfold maxLen at w0
  by_cases hbig : (1048576 : Int) < (s.size : Int)
  · clear w1 hv
    go_enter Tryd.func3, Tryd.ntmps3
    go_wp2_with fail
    go_ret
    exact ⟨rfl, Below.refl _ _⟩
  · have hs : s.size ≤ 1048576 := by omega
    obtain ⟨T, E, hr⟩ : ∃ T E, escAt s (cl s.size p) = (T, E) := ⟨_, _, rfl⟩
    have cS := spec_escapeAt s p w hs T E hr
    have cI : Hid (∀ w', ErrVar w' → Calls Tryd.prog 6 #[.string s, .int .i64 p] w' fun e w'' => e = .returned (.tuple #[.string T, .int .i64 (E : Int)]) ∧ Below w'.heap.size w' w'') := fun w' h => impl_escapeAt s p w' hs h T E hr
    have HV : Hid (ErrVar w) := hv
    clear w1 hs hr hv
    have hT : (T.toList != T.toList) = false := by simp
    go_enter Tryd.func3, Tryd.ntmps3
    go_wp2_with fail
    refine cS.mono ?_
    rintro e w1 ⟨rfl, hb1⟩
    clear cS
    go_wp2_with fail
    refine (cI.out w1 (HV.out.later hb1)).mono ?_
    rintro e w2 ⟨rfl, hb2⟩
    clear cI
    go_wp2_with fail
    go_ret
    exact ⟨rfl, hb1.trans (hb2.mono hb1.size)⟩
end Go.Proofs.YtcajfnhbfciahakDoor
