/- impl's small questions on plain scalars: signAt (a byte of some), aloneAt. -/
import Derived.Test.YtmbbmibkjnlkkaaFlw
import Derived.WalkMore
import Derived.Laws.EntriesVeiled
namespace Go.Proofs.Ytmbbmibkjnlkkaa
open Go.ChangeShapes Go.WideShapes Go.ChangeAt Go.RowKit Go.Shelf
/-- At k there is a byte of the kind P. -/
def sgq (P : Nat → Bool) (s : ByteArray) (k : Nat) : Bool := decide (k < s.size) && P (bt s k)
theorem sgq_lt {P : Nat → Bool} {s : ByteArray} {k : Nat} (h : k < s.size) : sgq P s k = P (bt s k) := by unfold sgq; rw [decide_eq_true h]; rfl
theorem sgq_end {P : Nat → Bool} {s : ByteArray} {k : Nat} (h : s.size ≤ k) : sgq P s k = false := by unfold sgq; rw [decide_eq_false (by omega)]; rfl
def SignsQ (P : Nat → Bool) (t : ByteArray) : Prop := ∀ x, x < 256 → P x = t.data.toList.contains x.toUInt8
theorem askQ (s t : ByteArray) (k A : Nat) (P : Nat → Bool) (h : k < s.size) (w : World) (b : Bool) (hA : w.heap[A]? = some (.cells #[.string t] 9 (0, 0))) (hP : SignsQ P t) (hb : P (bt s k) = b) :
    Calls Try.prog 72 #[.int .u8 ((s[k]'h).toNat : Int), .pointer (some ⟨A, 0, none⟩)] w fun e w' => e = .returned (.bool b) ∧ Below w.heap.size w w' := by
  subst hb
  have := amongC_any t P A w hA hP w (bt s k) (bt_lt s k) (Below.refl _ _)
  rw [← bt_get s k h] at this ⊢
  exact this
theorem F6_signs : SignsQ pF6 ⟨#[44, 91, 93, 123, 125]⟩ := by
  intro x hx
  show pF6 x = [44, 91, 93, 123, 125].contains x.toUInt8
  simp only [List.contains_cons, List.contains_nil, u8_eq hx, Bool.or_false, pF6, Bool.or_assoc]
  rfl
def p3q (c : Nat) : Bool := c == 45 || c == 63 || c == 58
theorem p3q_signs : SignsQ p3q ⟨#[45, 63, 58]⟩ := by
  intro x hx
  show p3q x = [45, 63, 58].contains x.toUInt8
  simp only [List.contains_cons, List.contains_nil, u8_eq hx, Bool.or_false, p3q, Bool.or_assoc]
  rfl
def p10q (c : Nat) : Bool := c == 10
theorem p10q_signs : SignsQ p10q ⟨#[10]⟩ := by
  intro x hx
  show p10q x = [10].contains x.toUInt8
  simp only [List.contains_cons, List.contains_nil, u8_eq hx, Bool.or_false, p10q]
  rfl
def p35q (c : Nat) : Bool := c == 35
theorem p35q_signs : SignsQ p35q ⟨#[35]⟩ := by
  intro x hx
  show p35q x = [35].contains x.toUInt8
  simp only [List.contains_cons, List.contains_nil, u8_eq hx, Bool.or_false, p35q]
  rfl
def pBad (c : Nat) : Bool := badL.contains c
theorem pBad_signs : SignsQ pBad ⟨#[44, 91, 93, 123, 125, 35, 38, 42, 33, 124, 62, 39, 34, 37, 64, 96]⟩ := by
  intro x hx
  show badL.contains x = [44, 91, 93, 123, 125, 35, 38, 42, 33, 124, 62, 39, 34, 37, 64, 96].contains x.toUInt8
  simp only [badL, List.contains_cons, List.contains_nil, u8_eq hx, Bool.or_false]
  rfl
/-- aloneAt. -/
def alo (s : ByteArray) (k : Nat) (fl : Bool) : Bool := gapP s k || (fl && pF6 (bt s k))
end Go.Proofs.Ytmbbmibkjnlkkaa
