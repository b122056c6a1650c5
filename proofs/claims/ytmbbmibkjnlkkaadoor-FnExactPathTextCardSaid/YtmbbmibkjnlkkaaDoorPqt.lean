/- A text as a step: plain. -/
import Derived.Test.YtmbbmibkjnlkkaaDoorCnr
import Derived.Test.YtmbbmibkjnlkkaaDoorLn
import Derived.Test.YtmbbmibkjnlkkaaDoorSnu
import Derived.Test.YtmbbmibkjnlkkaaDoorPsg
namespace Go.Proofs.YtmbbmibkjnlkkaaDoor
open Go.Proofs.YtmbbmibkjnlkkaaDoor.Cln
def dbl : List UInt8 → List UInt8
  | [] => []
  | c :: r => if c = 39 then 39 :: 39 :: dbl r else c :: dbl r
theorem rep39 : ∀ l : List UInt8, Lib.replaceK [39] [39, 39] (Lib.count l [39]) l = dbl l
  | [] => by rw [rep_nil _ _ (by simp)]; rfl
  | c :: r => by
    by_cases hc : c = 39
    · subst hc
      rw [rep_hit _ _ _ (by simp) (by simp)]
      show 39 :: 39 :: Lib.replaceK [39] [39, 39] (Lib.count r [39]) r = _
      rw [rep39 r]; rfl
    · have hp : ([39] : List UInt8).isPrefixOf (c :: r) = false := by
        simp [List.isPrefixOf]
        exact fun h => hc h.symm
      rw [rep_miss _ _ _ _ (by simp) hp, rep39 r]
      show _ = (if c = 39 then 39 :: 39 :: dbl r else c :: dbl r)
      rw [if_neg hc]
theorem all39 (l : List UInt8) : Lib.replaceAll l [39] [39, 39] = dbl l := by
  unfold Lib.replaceAll Lib.replace Lib.replaceNum
  rw [if_neg (by decide), if_pos (by omega), rep39 l]
theorem dbl_len : ∀ l : List UInt8, (dbl l).length ≤ 2 * l.length
  | [] => Nat.le_refl _
  | c :: r => by
    have := dbl_len r
    unfold dbl
    split <;> simp only [List.length_cons] <;> omega
def q39 : ByteArray := ⟨#[39]⟩
/-- A text in quotes. -/
def quoteT (t : ByteArray) : ByteArray := q39 ++ ⟨(dbl t.data.toList).toArray⟩ ++ q39
def pDg (x : Nat) : Bool := decide (48 ≤ x ∧ x ≤ 57)
def pHn (x : Nat) : Bool := decide ((97 ≤ x ∧ x ≤ 122) ∨ (65 ≤ x ∧ x ≤ 90) ∨ (48 ≤ x ∧ x ≤ 57) ∨ x = 45)
def pKy (x : Nat) : Bool := pHn x || x == 95
/-- Whether a text may stand bare. -/
def wordT (t : ByteArray) : Bool := decide (0 < t.size) && (!pDg (bt t 0) && decide (fwd pKy t 0 = t.size))
def keyT (t : ByteArray) : ByteArray := if wordT t = true then t else quoteT t
/-- A step as a text. -/
def segT (s : Sg) : ByteArray :=
  if s.kind = 1 then nt s.n else if s.kind = 3 then ⟨#[64]⟩ ++ nt s.n else if s.kind = 4 then ⟨#[42]⟩ else if s.kind = 5 then ⟨#[42, 42]⟩ else keyT s.text
end Go.Proofs.YtmbbmibkjnlkkaaDoor
