/- The law on HeadAt, walked. -/
import Derived.Test.YtfpkcfedkjjjbakSha
import Derived.Test.YtfpkcfedkjjjbakIhs
namespace Go.Proofs.Ytfpkcfedkjjjbak
open Go.ChangeShapes Go.WideShapes Go.ChangeAt Go.RowKit
theorem law_headAt (s : ByteArray) (p : Int) (w0 : s.size ≤ maxLen) (_ : (Lit.int .i64 p).wf = true) (w : World) :
    Calls Try.prog 3 #[.string s, .int .i64 p] w fun e w' => e = .returned (.bool true) ∧ Below w.heap.size w w' := by
  unfold maxLen at w0
  by_cases hbig : (1048576 : Int) < (s.size : Int)
  · go_enter Try.func3, Try.ntmps3
    go_wp2_with fail
    go_ret
    exact ⟨rfl, Below.refl _ _⟩
  · have hs : s.size ≤ 1048576 := by omega
    obtain ⟨D, C, R, K, hr⟩ : ∃ D C R K, hdAt s (cl s.size p) = (D, C, R, K) := ⟨_, _, _, _, rfl⟩
    have cS := spec_headAt s p w hs D C R K hr
    have cI : Hid (∀ w', Calls Try.prog 7 #[.string s, .int .i64 p] w' fun e w'' => e = .returned (.tuple #[.int .i64 (D : Int), .int .i64 (C : Int), .int .i64 (R : Int), .int .i64 (K : Int)]) ∧ Below w'.heap.size w' w'') := fun w' => implHe s p w' D C R K hs hr
    clear hs hr
    go_enter Try.func3, Try.ntmps3
    go_wp2_with fail
    refine cS.mono ?_
    rintro e w1 ⟨rfl, rfl⟩
    clear cS
    go_wp2_with fail
    refine (cI.out w1).mono ?_
    rintro e w2 ⟨rfl, hb2⟩
    clear cI
    go_wp2_with fail
    go_ret
    exact ⟨rfl, hb2⟩
end Go.Proofs.Ytfpkcfedkjjjbak
