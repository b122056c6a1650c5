/- The contract of spec.l07Hex. -/
import Derived.Test.YtfbgdkfnidghcajDoorQut
import Derived.Test.YtfbgdkfnidghcajDoorProg
import Derived.WalkLawsBesides
import Derived.WalkSpells
import Derived.WalkMore
namespace Go.Proofs.YtfbgdkfnidghcajDoor
open Go.ChangeShapes Go.WideShapes Go.ChangeAt Go.RowKit
/-- A digit of base sixteen. -/
def dg (x : Nat) : Option Nat := if 48 ≤ x ∧ x ≤ 57 then some (x - 48) else if 97 ≤ x ∧ x ≤ 102 then some (x - 87) else if 65 ≤ x ∧ x ≤ 70 then some (x - 55) else none
/-- c digits from i on. -/
def hexGo (s : ByteArray) : Nat → Nat → Nat → Int
  | 0, _, x => (x : Int)
  | c + 1, i, x => if s.size ≤ i then -1 else match dg (bt s i) with
    | none => -1
    | some d => hexGo s c (i + 1) (x * 16 + d)
theorem hex_end {s : ByteArray} {c i x : Nat} (h : s.size ≤ i) : hexGo s (c + 1) i x = -1 := by rw [hexGo, if_pos h]
theorem hex_bad {s : ByteArray} {c i x : Nat} (h : i < s.size) (hd : dg (bt s i) = none) : hexGo s (c + 1) i x = -1 := by rw [hexGo, if_neg (by omega), hd]
theorem hex_dig {s : ByteArray} {c i x d : Nat} (h : i < s.size) (hd : dg (bt s i) = some d) : hexGo s (c + 1) i x = hexGo s c (i + 1) (x * 16 + d) := by rw [hexGo, if_neg (by omega), hd]
theorem pow_step {x d c : Nat} (hc : c < 8) (h : x < 16 ^ (7 - c)) (hd : d < 16) : x * 16 + d < 16 ^ (8 - c) := by
  have e : 8 - c = (7 - c) + 1 := by omega
  rw [e, Nat.pow_succ]
  omega
theorem pow_le (c : Nat) : 16 ^ (7 - c) ≤ 268435456 := by
  have : 16 ^ (7 - c) ≤ 16 ^ 7 := Nat.pow_le_pow_right (by decide) (by omega)
  exact this
end Go.Proofs.YtfbgdkfnidghcajDoor
