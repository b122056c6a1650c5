/- Several texts in one: Lat Ovr End Nat Beg. -/
import Derived.Test.YtgaibajkegfpoaaDoorLn
import Derived.Test.YtgaibajkegfpoaaDoorProg
import Derived.WalkKit
import Derived.ProofKit
import Derived.WalkLawsBesides
import Derived.WalkSpells
import Derived.Below
import Derived.Shelf.Strings.LastIndex
import Derived.Shelf.Small.Strs
import Derived.Shelf.Abstract
/- spec.LineAt and impl.LineAt both answer the beginning of the line, Col how far that is; nothing that was there is changed. -/
namespace Go.Proofs
open Go.Shelf

end Go.Proofs
namespace Go.Proofs.YtgaibajkegfpoaaDoor
open Go.ChangeShapes Go.WideShapes Go.ChangeAt Go.RowKit
theorem ret_int {k : IntKind} {a b : Int} (h : a = b) : Ending.returned (.int k a) = .returned (.int k b) := by rw [h]
theorem ret_bool {a b : Bool} (h : a = b) : Ending.returned (.bool a) = .returned (.bool b) := by rw [h]
end Go.Proofs.YtgaibajkegfpoaaDoor
/- The closures of impl, and what goes over bytes: impl.over, among, EndAt, White; spec's side of EndAt and White. -/
namespace Go.Proofs
open Go.Shelf

end Go.Proofs
namespace Go.Proofs.YtgaibajkegfpoaaDoor
open Go.ChangeShapes Go.WideShapes Go.ChangeAt Go.RowKit Go.Shelf
/-- What is asked of a function value: at every later world and every byte it answers p, and what lay, lies. -/
def PredB (g : Nat) (lb : Array Value) (p : Nat → Bool) (w : World) : Prop :=
  ∀ (W : World) (x : Nat), x < 256 → Below w.heap.size w W → Calls Tryd.prog g (#[.int .u8 (x : Int)] ++ lb) W fun e w' => e = .returned (.bool (p x)) ∧ Below W.heap.size W w'
theorem PredB.later {g : Nat} {lb : Array Value} {p : Nat → Bool} {w W : World} (h : PredB g lb p w) (hb : Below w.heap.size w W) : PredB g lb p W :=
  fun W' x hx hb' => h W' x hx (hb.trans (hb'.mono hb.size))
theorem u8_eq {x : Nat} (hx : x < 256) (c : UInt8) : (x.toUInt8 == c) = (x == c.toNat) := by
  rw [Bool.eq_iff_iff, beq_iff_eq, beq_iff_eq, ← UInt8.toNat_inj]
  have : x.toUInt8.toNat = x := by
    show (UInt8.ofNat x).toNat = x
    rw [UInt8.toNat_ofNat']; omega
  rw [this]
theorem pW_signs : ∀ x, x < 256 → pW x = (ByteArray.mk #[32, 9]).data.toList.contains x.toUInt8 := by
  intro x hx
  show pW x = [32, 9].contains x.toUInt8
  rw [List.contains_cons, List.contains_cons, List.contains_nil, u8_eq hx, u8_eq hx, Bool.or_false]
  rfl
theorem pG_signs : ∀ x, x < 256 → pG x = (ByteArray.mk #[32, 9, 10]).data.toList.contains x.toUInt8 := by
  intro x hx
  show pG x = [32, 9, 10].contains x.toUInt8
  rw [List.contains_cons, List.contains_cons, List.contains_cons, List.contains_nil, u8_eq hx, u8_eq hx, u8_eq hx, Bool.or_false]
  show (x == 32 || x == 9 || x == 10) = (x == 32 || (x == 9 || x == 10))
  rw [Bool.or_assoc]
theorem pB_signs : ∀ x, x < 256 → pB x = (ByteArray.mk #[32]).data.toList.contains x.toUInt8 := by
  intro x hx
  show pB x = [32].contains x.toUInt8
  rw [List.contains_cons, List.contains_nil, u8_eq hx, Bool.or_false]
  rfl
/- spec's side. -/
end Go.Proofs.YtgaibajkegfpoaaDoor
/- spec.EndAt answers the end of the line. -/
namespace Go.Proofs.YtgaibajkegfpoaaDoor
open Go.ChangeShapes Go.WideShapes Go.ChangeAt Go.RowKit
end Go.Proofs.YtgaibajkegfpoaaDoor
/- Contracts at places of the text; the small questions of both sides: is there a break, is it the beginning of a line. -/
namespace Go.Proofs.YtgaibajkegfpoaaDoor
open Go.ChangeShapes Go.WideShapes Go.ChangeAt Go.RowKit
theorem ret_tn {a c : Int} {b d : Bool} (h : a = c) (h' : b = d) : Ending.returned (.tuple #[.int .i64 a, .bool b]) = .returned (.tuple #[.int .i64 c, .bool d]) := by rw [h, h']
end Go.Proofs.YtgaibajkegfpoaaDoor
/- impl.begins tells whether a place is the beginning of a line. -/
namespace Go.Proofs.YtgaibajkegfpoaaDoor
open Go.ChangeShapes Go.WideShapes Go.ChangeAt Go.RowKit
end Go.Proofs.YtgaibajkegfpoaaDoor
