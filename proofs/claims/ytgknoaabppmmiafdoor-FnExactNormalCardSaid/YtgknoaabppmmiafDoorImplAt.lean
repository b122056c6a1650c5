/- Small facts on 'ra', on what a string iterator leaves. -/
import Derived.Test.YtgknoaabppmmiafDoorAt
import Derived.WalkKit
import Derived.ProofKit
import Derived.WalkLawsBesides
import Derived.WalkSpells
import Derived.Below
import Derived.LoopN
import Derived.Laws.RangeAny
import Derived.Deep.QuietTactic
import Derived.BigQuiet
namespace Go.Proofs.YtgknoaabppmmiafDoor
open Go.ChangeShapes Go.WideShapes Go.ChangeAt Go.RowKit
theorem bt_tail (s : ByteArray) (q i : Nat) (hq : q ≤ s.size) : bt (s.extract q s.size) i = bt s (q + i) := by
  unfold bt
  congr 2
  show (s.extract q s.size).data[i]! = s.data[q + i]!
  have hz : (s.extract q s.size).data.size = s.size - q := by
    show (s.extract q s.size).size = _
    rw [ByteArray.size_extract]; omega
  by_cases h : q + i < s.size
  · rw [getElem!_pos (s.extract q s.size).data i (by omega), getElem!_pos s.data (q + i) h]
    simp [ByteArray.data_extract]
  · rw [getElem!_neg (s.extract q s.size).data i (by omega), getElem!_neg s.data (q + i) h]
theorem ra_tail (s : ByteArray) (q : Nat) (hq : q ≤ s.size) : ra (s.extract q s.size) 0 = ra s q := by
  have hz : (s.extract q s.size).size = s.size - q := by rw [ByteArray.size_extract]; omega
  unfold ra
  rw [hz]
  simp only [bt_tail s q _ hq, Nat.zero_add, Nat.add_zero]
  have e0 : (0 < s.size - q) = (q < s.size) := propext (by omega)
  have e1 : (1 < s.size - q) = (q + 1 < s.size) := propext (by omega)
  have e2 : (2 < s.size - q) = (q + 2 < s.size) := propext (by omega)
  have e3 : (3 < s.size - q) = (q + 3 < s.size) := propext (by omega)
  simp only [e0, e1, e2, e3]
theorem ret2 {a b c d : Int} (h : a = c) (h' : b = d) : Ending.returned (.tuple #[.int .i64 a, .int .i64 b]) = .returned (.tuple #[.int .i64 c, .int .i64 d]) := by rw [h, h']
theorem stands_0 (s : ByteArray) (r : Int) (w : World) (b : Bool) (hb : stB s 0 r = b) :
    Calls Tryd.prog 26 #[.string s, .int .i64 0, .int .i32 r] w fun e w' => e = .returned (.bool b) ∧ ∃ n, w' = w.drewN n := by
  subst hb; exact stands_any s 0 r w (Nat.zero_le _)
theorem iter_below (w : World) (t : ByteArray) (i n : Nat) : Below w.heap.size w ((w.iter t i).drewN n) :=
  below_drewN ((Below.refl _ w).alloc (Nat.le_refl _) _) n
end Go.Proofs.YtgknoaabppmmiafDoor
