/- The contract of spec.PlainAt. -/
import Derived.Test.YthlainjkpeioeajSpat
import Derived.Test.YthlainjkpeioeajSpaf
namespace Go.Proofs.Ythlainjkpeioeaj
open Go.RowKit
theorem spec_plainAt (s : ByteArray) (p n : Int) (fl : Bool) (w : World) (hs : s.size ≤ 1048576) (T : ByteArray) (E : Nat) (b : Bool) (hr : plAt s (cl s.size p) n fl = (T, E, b)) :
    Calls Try.prog 19 #[.string s, .int .i64 p, .int .i64 n, .bool fl] w fun e w' => e = .returned (.tuple #[.string T, .int .i64 (E : Int), .bool b]) ∧ Below w.heap.size w w' := by
  cases fl with
  | true => exact spec_plainAt_true s p n w hs T E b hr
  | false => exact spec_plainAt_false s p n w hs T E b hr
end Go.Proofs.Ythlainjkpeioeaj
