/- The contract of spec.EscapeAt. -/
import Derived.Test.YtfbgdkfnidghcajDoorShx
import Derived.Test.YtfbgdkfnidghcajDoorRnb
import Derived.Lib.SlBytesConst
namespace Go.Proofs.YtfbgdkfnidghcajDoor
open Go.ChangeShapes Go.WideShapes Go.ChangeAt Go.RowKit
def escL : List Nat := [48, 97, 98, 116, 9, 110, 118, 102, 114, 101, 32, 34, 47, 92, 78, 95, 76, 80]
def escs : Array Value := #[.int .u8 48, .int .u8 97, .int .u8 98, .int .u8 116, .int .u8 9, .int .u8 110, .int .u8 118, .int .u8 102, .int .u8 114, .int .u8 101, .int .u8 32, .int .u8 34, .int .u8 47, .int .u8 92, .int .u8 78, .int .u8 95, .int .u8 76, .int .u8 80]
theorem escs_at : ∀ {i n : Nat}, escL[i]? = some n → escs[i]? = some (.int .u8 (n : Int)) := by
  intro i n h
  have hi : i < 18 := by
    rcases Nat.lt_or_ge i 18 with h' | h'
    · exact h'
    · rw [List.getElem?_eq_none (by show 18 ≤ i; exact h')] at h; cases h
  have hw : i = 0 ∨ i = 1 ∨ i = 2 ∨ i = 3 ∨ i = 4 ∨ i = 5 ∨ i = 6 ∨ i = 7 ∨ i = 8 ∨ i = 9 ∨ i = 10 ∨ i = 11 ∨ i = 12 ∨ i = 13 ∨ i = 14 ∨ i = 15 ∨ i = 16 ∨ i = 17 := by omega
  rcases hw with rfl | rfl | rfl | rfl | rfl | rfl | rfl | rfl | rfl | rfl | rfl | rfl | rfl | rfl | rfl | rfl | rfl | rfl <;> (injection h with h; subst h; rfl)
/-- What a byte behind a backslash stands for. -/
def escT (x : Nat) : Option Nat := if x = 48 then some 0 else if x = 97 then some 7 else if x = 98 then some 8 else if x = 116 then some 9 else if x = 9 then some 9 else if x = 110 then some 10 else if x = 118 then some 11 else if x = 102 then some 12 else if x = 114 then some 13 else if x = 101 then some 27 else if x = 32 then some 32 else if x = 34 then some 34 else if x = 47 then some 47 else if x = 92 then some 92 else if x = 78 then some 133 else if x = 95 then some 160 else if x = 76 then some 8232 else if x = 80 then some 8233 else none
/-- How many digits come behind it. -/
def escN (x : Nat) : Nat := if x = 120 then 2 else if x = 117 then 4 else if x = 85 then 8 else 0
def escAt (s : ByteArray) (k : Nat) : ByteArray × Nat :=
  if s.size ≤ k + 1 ∨ bt s k ≠ 92 then (ByteArray.empty, 0)
  else match escT (bt s (k + 1)) with
    | some r => (rb (r : Int), k + 2)
    | none => if escN (bt s (k + 1)) = 0 then (ByteArray.empty, 0)
      else if rb (hexGo s (escN (bt s (k + 1))) (k + 2) 0) = ByteArray.empty then (ByteArray.empty, 0)
      else (rb (hexGo s (escN (bt s (k + 1))) (k + 2) 0), k + 2 + escN (bt s (k + 1)))
theorem escT_none {x : Nat} (h : ∀ (j n : Nat), escL[j]? = some n → x ≠ n) : escT x = none := by
  unfold escT
  rw [if_neg (h 0 _ rfl), if_neg (h 1 _ rfl), if_neg (h 2 _ rfl), if_neg (h 3 _ rfl), if_neg (h 4 _ rfl), if_neg (h 5 _ rfl), if_neg (h 6 _ rfl), if_neg (h 7 _ rfl), if_neg (h 8 _ rfl), if_neg (h 9 _ rfl), if_neg (h 10 _ rfl), if_neg (h 11 _ rfl), if_neg (h 12 _ rfl), if_neg (h 13 _ rfl), if_neg (h 14 _ rfl), if_neg (h 15 _ rfl), if_neg (h 16 _ rfl), if_neg (h 17 _ rfl)]
theorem empty_l : (ByteArray.empty.toList == ([] : List UInt8)) = true := by rw [ByteArray.toList_eq]; rfl
theorem nonempty_l {t : ByteArray} (h : t ≠ ByteArray.empty) : (t.toList == []) = false := by
  rw [beq_eq_false_iff_ne]
  intro e
  apply h
  rw [ByteArray.toList_eq] at e
  apply ba_ext'
  apply Array.ext'
  rw [e]; rfl
end Go.Proofs.YtfbgdkfnidghcajDoor
