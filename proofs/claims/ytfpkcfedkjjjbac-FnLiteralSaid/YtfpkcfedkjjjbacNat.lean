/- Contracts at places of the text; the small questions of both sides: is there a break, is it the beginning of a line. -/
import Derived.Test.YtfpkcfedkjjjbacEnd
namespace Go.Proofs.Ytfpkcfedkjjjbac
open Go.ChangeShapes Go.WideShapes Go.ChangeAt Go.RowKit
theorem line_any_nat (s : ByteArray) (k v : Nat) (w : World) (hs : s.size ≤ mx) (hk : k ≤ s.size) (hv : lnb s k = v) :
    Calls Try.prog 65 #[.string s, .int .i64 (k : Int)] w fun e w' => e = .returned (.int .i64 (v : Int)) ∧ w' = w := by
  have := line_any s (k : Int) w hs
  rw [cl_nat _ _ hk, hv] at this
  exact this
theorem endAt_any_nat (s : ByteArray) (k v : Nat) (w : World) (hs : s.size ≤ mx) (hk : k ≤ s.size) (hv : endL s k = v) :
    Calls Try.prog 42 #[.string s, .int .i64 (k : Int)] w fun e w' => e = .returned (.int .i64 (v : Int)) ∧ Below w.heap.size w w' := by
  have := endAt_any s (k : Int) w hs
  rw [cl_nat _ _ hk, hv] at this
  exact this
theorem white_any_nat (s : ByteArray) (k v : Nat) (w : World) (hs : s.size ≤ mx) (hk : k ≤ s.size) (hv : wh s k = v) :
    Calls Try.prog 61 #[.string s, .int .i64 (k : Int)] w fun e w' => e = .returned (.int .i64 (v : Int)) ∧ Below w.heap.size w w' := by
  have := white_any s (k : Int) w hs
  rw [cl_nat _ _ hk, hv] at this
  exact this
theorem bring_nat (s : ByteArray) (k : Nat) (w : World) (hs : s.size ≤ mx) (hk : k ≤ s.size) :
    Calls Try.prog 25 #[.string s, .int .i64 (k : Int)] w fun e w' => e = .returned (.int .i64 (k : Int)) ∧ w' = w := by
  have := bring_any s (k : Int) w hs
  rw [cl_nat _ _ hk] at this
  exact this
theorem ret_tn {a c : Int} {b d : Bool} (h : a = c) (h' : b = d) : Ending.returned (.tuple #[.int .i64 a, .bool b]) = .returned (.tuple #[.int .i64 c, .bool d]) := by rw [h, h']
end Go.Proofs.Ytfpkcfedkjjjbac
