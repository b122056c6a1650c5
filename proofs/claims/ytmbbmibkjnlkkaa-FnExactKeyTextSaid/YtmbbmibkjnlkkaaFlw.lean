/- Flow signs, and what a plain scalar may begin with and where it ends, as plain functions; the contract of spec.l04Flow. -/
import Derived.Test.YtmbbmibkjnlkkaaSmk
namespace Go.Proofs.Ytmbbmibkjnlkkaa
open Go.ChangeShapes Go.WideShapes Go.ChangeAt Go.RowKit
def pF6 (c : Nat) : Bool := c == 44 || c == 91 || c == 93 || c == 123 || c == 125
theorem flow6 (x : Nat) (w : World) (b : Bool) (hb : b = pF6 x) :
    Calls Try.prog 50 #[.int .u8 (x : Int)] w fun e w' => e = .returned (.bool b) ∧ w' = w := by
  subst hb
  by_cases h : x = 44 ∨ x = 91 ∨ x = 93 ∨ x = 123 ∨ x = 125
  · rcases h with rfl | rfl | rfl | rfl | rfl
    all_goals
      go_enter Try.func50, Try.ntmps50
      go_wp2_with fail
      go_ret
      exact ⟨rfl, rfl⟩
  · have e : pF6 x = false := by
      unfold pF6
      simp only [Bool.or_eq_false_iff, beq_eq_false_iff_ne]
      omega
    have h1 : ((x : Int) == 44) = false := by rw [beq_eq_false_iff_ne]; omega
    have h2 : ((x : Int) == 91) = false := by rw [beq_eq_false_iff_ne]; omega
    have h3 : ((x : Int) == 93) = false := by rw [beq_eq_false_iff_ne]; omega
    have h4 : ((x : Int) == 123) = false := by rw [beq_eq_false_iff_ne]; omega
    have h5 : ((x : Int) == 125) = false := by rw [beq_eq_false_iff_ne]; omega
    rw [e]
    clear h e
    go_enter Try.func50, Try.ntmps50
    go_wp2_with fail
    go_ret
    exact ⟨rfl, rfl⟩
def badL : List Nat := [44, 91, 93, 123, 125, 35, 38, 42, 33, 124, 62, 39, 34, 37, 64, 96]
/-- A plain scalar may begin at k. -/
def plF (s : ByteArray) (k : Nat) (fl : Bool) : Bool :=
  if gapP s k = true then false
  else if bt s k ∈ badL then false
  else if bt s k ≠ 45 ∧ bt s k ≠ 63 ∧ bt s k ≠ 58 then true
  else !gapP s (k + 1) && !(fl && pF6 (bt s (k + 1)))
/-- A plain scalar that began at p stops at q, ahead of the line's end. -/
def stopP (s : ByteArray) (p q : Nat) (fl : Bool) : Bool :=
  (bt s q == 35 && (decide (p < q) && pW (bt s (q - 1)))) || ((fl && pF6 (bt s q)) || (bt s q == 58 && (gapP s (q + 1) || (fl && pF6 (bt s (q + 1))))))
def pe1 (s : ByteArray) (p : Nat) (fl : Bool) : Nat → Nat → Nat
  | 0, q => q
  | f + 1, q => if brk s q = true then q else if stopP s p q fl = true then q else pe1 s p fl f (q + 1)
def pe2 (s : ByteArray) (p : Nat) : Nat → Nat
  | 0 => 0
  | q + 1 => if p < q + 1 ∧ pW (bt s q) = true then pe2 s p q else q + 1
def plE (s : ByteArray) (p : Nat) (fl : Bool) : Nat := pe2 s p (pe1 s p fl (s.size - p) p)
end Go.Proofs.Ytmbbmibkjnlkkaa
