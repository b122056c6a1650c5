/- What stands between two pieces or lines (pieceJoint, lineJoint), and the endings of a text. -/
import Derived.Test.YtfbgdkfnidghcajDoorBld
import Derived.Test.YtfbgdkfnidghcajDoorOvr
import Derived.WalkLawsBesides
import Derived.WalkSpells
import Derived.WalkMore
import Derived.Deep.QuietTactic
import Derived.BigQuiet
import Derived.Deep.Light
namespace Go.Proofs.YtfbgdkfnidghcajDoor
open Go.ChangeShapes Go.WideShapes Go.ChangeAt Go.RowKit
theorem ret_str {a b : ByteArray} (h : a = b) : Ending.returned (.string a) = .returned (.string b) := by rw [h]
/-- What stands between two pieces. -/
def pj (n : Nat) (g : Bool) : ByteArray := if 0 < n then brks n else if g then ByteArray.empty else b32
theorem pj_size (n : Nat) (g : Bool) : (pj n g).size ≤ n + 1 := by
  unfold pj
  split
  · rw [brks_size]; omega
  · split
    · exact Nat.zero_le _
    · show 1 ≤ n + 1; omega
theorem pieceJoint_any (n : ByteArray) (g : Bool) (k : Nat) (w : World) (hk : k ≤ 33554432) (o : ByteArray) (ho : pj k g = o) :
    Calls Tryd.prog 32 #[.agg #[.string n, .bool g], .int .i64 (k : Int)] w fun e w' => e = .returned (.string o) ∧ Below w.heap.size w w' := by
  by_cases h0 : 0 < k
  · have h0' : (0 : Int) < (k : Int) := by omega
    have HO : Hid (brks k = o) := by show brks k = o; rw [← ho]; unfold pj; rw [if_pos h0]
    clear ho h0
    go_enter Tryd.func32, Tryd.ntmps32
    go_wp2_with fail
    refine (rep_any k _ hk).mono ?_
    rintro e w1 ⟨rfl, hb1⟩
    go_wp2_with fail
    go_ret
    exact ⟨ret_str HO.out, ((Below.refl _ w).alloc (Nat.le_refl _) _).trans (hb1.mono (by simp))⟩
  · have h0' : ¬ (0 : Int) < (k : Int) := by omega
    cases g with
    | true =>
      have HO : Hid (ByteArray.empty = o) := by show _ = o; rw [← ho]; unfold pj; rw [if_neg h0, if_pos rfl]
      clear ho h0
      go_enter Tryd.func32, Tryd.ntmps32
      go_wp2_with fail
      go_ret
      exact ⟨ret_str HO.out, (Below.refl _ w).alloc (Nat.le_refl _) _⟩
    | false =>
      have HO : Hid (b32 = o) := by show _ = o; rw [← ho]; unfold pj; rw [if_neg h0]; rfl
      clear ho h0
      go_enter Tryd.func32, Tryd.ntmps32
      go_wp2_with fail
      go_ret
      exact ⟨ret_str HO.out, (Below.refl _ w).alloc (Nat.le_refl _) _⟩

/-- What stands ahead of a line. -/
def lj (last : ByteArray) (x : ByteArray) (n : Nat) : ByteArray :=
  if last = ByteArray.empty then brks n else if (farS x || farS last) = true then brks (n + 1) else if n = 0 then b32 else brks n
theorem lj_size (last x : ByteArray) (n : Nat) : (lj last x n).size ≤ n + 1 := by
  unfold lj
  split
  · rw [brks_size]; omega
  · split
    · rw [brks_size]; omega
    · split
      · show 1 ≤ n + 1; omega
      · rw [brks_size]; omega
theorem brks_snoc : ∀ n, brks n ++ b10 = brks (n + 1)
  | 0 => by rw [brks, brks, brks, empty_app, app_empty]
  | n + 1 => by rw [brks, app_assoc, brks_snoc n]; rfl
theorem e_list : (ByteArray.empty.toList == ([] : List UInt8)) = true := by rw [ByteArray.toList_eq]; rfl
theorem ne_list {t : ByteArray} (h : t ≠ ByteArray.empty) : (t.toList == []) = false := by
  rw [beq_eq_false_iff_ne]
  intro e
  apply h
  rw [ByteArray.toList_eq] at e
  apply ba_ext'
  apply Array.ext'
  rw [e]; rfl
end Go.Proofs.YtfbgdkfnidghcajDoor
