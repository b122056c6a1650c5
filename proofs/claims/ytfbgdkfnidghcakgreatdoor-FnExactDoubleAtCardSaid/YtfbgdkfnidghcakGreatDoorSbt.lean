/- The contract of spec.BlockText. -/
import Derived.Test.YtfbgdkfnidghcakGreatDoorSfb
namespace Go.Proofs.YtfbgdkfnidghcakGreatDoor
open Go.ChangeShapes Go.WideShapes Go.ChangeAt Go.RowKit
theorem joinB_snoc : ∀ (l : List ByteArray) (x : ByteArray), joinB (l ++ [x]) = if l = [] then x else joinB l ++ b10 ++ x
  | [], x => rfl
  | [y], x => by
    show y ++ b10 ++ joinB [x] = _
    rw [if_neg (by simp)]
    rfl
  | y :: z :: t, x => by
    have ih := joinB_snoc (z :: t) x
    rw [if_neg (by simp)] at ih
    rw [if_neg (by simp)]
    show y ++ b10 ++ joinB (z :: t ++ [x]) = (y ++ b10 ++ joinB (z :: t)) ++ b10 ++ x
    rw [ih]
    simp only [app_assoc]
theorem joinB_size : ∀ l : List ByteArray, (joinB l).size ≤ totS l + l.length
  | [] => Nat.le_refl _
  | [x] => by show x.size ≤ x.size + 0 + 1; omega
  | x :: y :: t => by
    have ih := joinB_size (y :: t)
    show (x ++ b10 ++ joinB (y :: t)).size ≤ x.size + totS (y :: t) + (y :: t).length + 1
    rw [ByteArray.size_append, ByteArray.size_append, show b10.size = 1 from rfl]
    omega
theorem fb_size : ∀ (l : List ByteArray) (out : ByteArray) (n : Nat) (y : Option ByteArray), (fbGo l out n y).size ≤ out.size + n + totS l + 2 * l.length
  | [], out, n, y => by show out.size ≤ _; omega
  | x :: t, out, n, y => by
    by_cases hx : x = ByteArray.empty
    · rw [fb_skip hx]
      have := fb_size t out (n + 1) y
      simp only [totS, List.length_cons]
      omega
    · cases y with
      | none =>
        rw [fb_none hx]
        have := fb_size t (out ++ brks n ++ x) 0 (some x)
        simp only [ByteArray.size_append, brks_size] at this
        simp only [totS, List.length_cons]
        omega
      | some y =>
        cases hf : farS x || farS y with
        | true =>
          rw [fb_far hx hf]
          have := fb_size t (out ++ brks (n + 1) ++ x) 0 (some x)
          simp only [ByteArray.size_append, brks_size] at this
          simp only [totS, List.length_cons]
          omega
        | false =>
          rw [fb_near hx hf]
          have := fb_size t ((if n = 0 then out ++ b32 else out) ++ brks n ++ x) 0 (some x)
          simp only [ByteArray.size_append, brks_size] at this
          have h2 : (if n = 0 then out ++ b32 else out).size ≤ out.size + 1 := by
            split
            · rw [ByteArray.size_append]; exact Nat.le_refl _
            · omega
          simp only [totS, List.length_cons]
          omega
theorem endB_fix {l : List ByteArray} {k : Nat} (h : k = 0 ∨ ∃ x, l[k - 1]? = some x ∧ x ≠ ByteArray.empty) : endB l k = k := by
  rcases h with rfl | ⟨x, hx, hne⟩
  · rfl
  · cases k with
    | zero => rfl
    | succ k =>
      rw [Nat.add_sub_cancel] at hx
      unfold endB
      rw [List.getD_eq_getElem?_getD, hx]
      show (if x = ByteArray.empty then _ else _) = _
      rw [if_neg hne]
theorem endB_step {l : List ByteArray} {k : Nat} {x : ByteArray} (hx : l[k]? = some x) (he : x = ByteArray.empty) : endB l (k + 1) = endB l k := by
  rw [endB, List.getD_eq_getElem?_getD, hx]
  show (if x = ByteArray.empty then _ else _) = _
  rw [if_pos he]
/-- What is put behind the lines. -/
def tailB (E : Nat) (ch : Int) (B : ByteArray) : ByteArray := if 0 < E ∧ ch ≠ 1 then B ++ b10 else B
def restN (L E : Nat) (ch : Int) : Nat := if ch = 2 then L - E else 0
theorem blockText_eq (ss : List ByteArray) (fd : Bool) (ch : Int) : blockText ss fd ch = tailB (endB ss ss.length) ch (if fd = true then foldBlock (ss.take (endB ss ss.length)) else joinB (ss.take (endB ss ss.length))) ++ brks (restN ss.length (endB ss ss.length) ch) := by
  unfold blockText tailB restN
  by_cases h1 : 0 < endB ss ss.length ∧ ch ≠ 1
  · rw [if_pos h1, if_pos h1]
    by_cases h2 : ch = 2
    · rw [if_pos h2, if_pos h2]
    · rw [if_neg h2, if_neg h2]; rfl
  · rw [if_neg h1, if_neg h1, app_empty]
    by_cases h2 : ch = 2
    · rw [if_pos h2, if_pos h2]
    · rw [if_neg h2, if_neg h2]; rfl
theorem tailB_zero {E : Nat} {ch : Int} {B : ByteArray} (h : ¬ (0 : Int) < (E : Int)) : tailB E ch B = B := by unfold tailB; rw [if_neg (by omega)]
theorem tailB_one {E : Nat} {ch : Int} {B : ByteArray} (h : (ch != 1) = false) : tailB E ch B = B := by unfold tailB; rw [if_neg (by simp at h; simp [h])]
theorem tailB_more {E : Nat} {ch : Int} {B : ByteArray} (h0 : (0 : Int) < (E : Int)) (h : (ch != 1) = true) : tailB E ch B = B ++ ⟨#[10]⟩ := by unfold tailB; rw [if_pos ⟨by omega, by simpa using h⟩]; rfl
theorem restN_two {L E : Nat} {ch : Int} (h : (ch == 2) = true) : restN L E ch = L - E := by unfold restN; rw [if_pos (by simpa using h)]
theorem restN_not {L E : Nat} {ch : Int} (h : (ch == 2) = false) : restN L E ch = 0 := by unfold restN; rw [if_neg (by simpa using h)]
end Go.Proofs.YtfbgdkfnidghcakGreatDoor
