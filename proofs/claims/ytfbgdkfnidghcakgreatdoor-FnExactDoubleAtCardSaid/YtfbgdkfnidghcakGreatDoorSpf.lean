/- The contract of spec.PlainFirst. -/
import Derived.Test.YtfbgdkfnidghcakGreatDoorFlw
import Derived.Lib.SlBytesConst
namespace Go.Proofs.YtfbgdkfnidghcakGreatDoor
open Go.ChangeShapes Go.WideShapes Go.ChangeAt Go.RowKit
theorem gapP_lt {s : ByteArray} {k : Nat} (h : gapP s k = false) : k < s.size := by
  unfold gapP at h
  rcases Nat.lt_or_ge k s.size with h' | h'
  · exact h'
  · rw [decide_eq_true h'] at h; cases h
def bads : Array Value := (badL.map fun (n : Nat) => Value.int .u8 (n : Int)).toArray
theorem bads_at {i n : Nat} (h : badL[i]? = some n) : bads[i]? = some (.int .u8 (n : Int)) := by
  unfold bads
  rw [List.getElem?_toArray, List.getElem?_map, h]; rfl
theorem plF_bad {s : ByteArray} {k : Nat} {fl : Bool} (h : gapP s k = false) (hb : bt s k ∈ badL) : plF s k fl = false := by
  unfold plF; rw [if_neg (by rw [h]; simp), if_pos hb]
theorem plF_gap {s : ByteArray} {k : Nat} {fl : Bool} (h : gapP s k = true) : plF s k fl = false := by
  unfold plF; rw [if_pos h]
theorem plF_yes {s : ByteArray} {k : Nat} {fl : Bool} (h : gapP s k = false) (hb : bt s k ∉ badL) (h3 : bt s k ≠ 45 ∧ bt s k ≠ 63 ∧ bt s k ≠ 58) : plF s k fl = true := by
  unfold plF; rw [if_neg (by rw [h]; simp), if_neg hb, if_pos h3]
theorem plF_ask {s : ByteArray} {k : Nat} {fl : Bool} (h : gapP s k = false) (hb : bt s k ∉ badL) (h3 : ¬ (bt s k ≠ 45 ∧ bt s k ≠ 63 ∧ bt s k ≠ 58)) : plF s k fl = (!gapP s (k + 1) && !(fl && pF6 (bt s (k + 1)))) := by
  unfold plF; rw [if_neg (by rw [h]; simp), if_neg hb, if_neg h3]
end Go.Proofs.YtfbgdkfnidghcakGreatDoor
