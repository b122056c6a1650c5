/- Several texts in one: Smk Flw Evs. -/
import Derived.Test.YtgaibajkegfpoaaDoorMk
/- spec.MarkAt answers what 'markN' says. -/
namespace Go.Proofs.YtgaibajkegfpoaaDoor
open Go.ChangeShapes Go.WideShapes Go.ChangeAt Go.RowKit
theorem gapP_or (s : ByteArray) (k : Nat) : gapP s k = ((decide (k < s.size) && pW (bt s k)) || brk s k) := by
  unfold gapP brk
  rw [pG_or]
  by_cases h : k < s.size
  · rw [decide_eq_true h, decide_eq_false (show ¬ s.size ≤ k by omega)]; rfl
  · rw [decide_eq_false h, decide_eq_true (show s.size ≤ k by omega)]; rfl
theorem eq3 (s : ByteArray) (p : Nat) (h : p + 3 ≤ s.size) (c : UInt8) (b : Bool) (hb : is3 s p c.toNat = b) : ((s.extract p (p + 3)).toList == [c, c, c]) = b := by
  rw [show [c, c, c] = (ByteArray.mk #[c, c, c]).toList from by rw [ByteArray.toList_eq], ← hb, is3_ext s p h, toList_beq, Bool.eq_iff_iff, decide_eq_true_eq, decide_eq_true_eq]
  constructor
  · intro h'; rw [h']
  · intro h'; exact ba_ext h'
end Go.Proofs.YtgaibajkegfpoaaDoor
/- Flow signs, and what a plain scalar may begin with and where it ends, as plain functions; the contract of spec.l04Flow. -/
namespace Go.Proofs.YtgaibajkegfpoaaDoor
open Go.ChangeShapes Go.WideShapes Go.ChangeAt Go.RowKit
def pF6 (c : Nat) : Bool := c == 44 || c == 91 || c == 93 || c == 123 || c == 125
def badL : List Nat := [44, 91, 93, 123, 125, 35, 38, 42, 33, 124, 62, 39, 34, 37, 64, 96]
/-- A plain scalar may begin at k. -/
def plF (s : ByteArray) (k : Nat) (fl : Bool) : Bool :=
  if gapP s k = true then false
  else if bt s k ∈ badL then false
  else if bt s k ≠ 45 ∧ bt s k ≠ 63 ∧ bt s k ≠ 58 then true
  else !gapP s (k + 1) && !(fl && pF6 (bt s (k + 1)))
/-- A plain scalar that began at p stops at q, ahead of the line's end. -/
def stopP (s : ByteArray) (p q : Nat) (fl : Bool) : Bool :=
  (bt s q == 35 && (decide (p < q) && pW (bt s (q - 1)))) || ((fl && pF6 (bt s q)) || (bt s q == 58 && (gapP s (q + 1) || (fl && pF6 (bt s (q + 1))))))
def pe1 (s : ByteArray) (p : Nat) (fl : Bool) : Nat → Nat → Nat
  | 0, q => q
  | f + 1, q => if brk s q = true then q else if stopP s p q fl = true then q else pe1 s p fl f (q + 1)
def pe2 (s : ByteArray) (p : Nat) : Nat → Nat
  | 0 => 0
  | q + 1 => if p < q + 1 ∧ pW (bt s q) = true then pe2 s p q else q + 1
def plE (s : ByteArray) (p : Nat) (fl : Bool) : Nat := pe2 s p (pe1 s p fl (s.size - p) p)
end Go.Proofs.YtgaibajkegfpoaaDoor
/- Events, as they lie, and what EventOk answers, as plain functions. -/
namespace Go.Proofs.YtgaibajkegfpoaaDoor
open Go.RowKit
structure Ev where
  kind : Int
  style : Int
  flag : Bool
  text : ByteArray
  anchor : ByteArray
  tag : ByteArray
  at_ : Int
  code : Int
/-- An event's cells. -/
def Ev.row (e : Ev) : Array Value := #[.int .i64 e.kind, .int .i64 e.style, .bool e.flag, .string e.text, .string e.anchor, .string e.tag, .int .i64 e.at_, .int .i64 e.code]
/-- A byte that a name may have. -/
def pNm (c : Nat) : Bool := !(pG c || pF6 c)
def nmOk (s : ByteArray) : Bool := decide (fwd pNm s 0 = s.size) && decide (s.size ≤ 60)
def nodeK (k : Int) : Bool := k == 3 || k == 4 || k == 5
def loK (k : Int) : Int := if k = 5 then 1 else if k = 3 ∨ k = 4 then 6 else 0
def hiK (k : Int) : Int := if k = 5 then 5 else if k = 3 ∨ k = 4 then 7 else 0
def noB (s : ByteArray) : Bool := s.toList == []
/-- What comes behind the tests that all kinds have. -/
def evRest (e : Ev) : Bool :=
  if e.kind = 10 then decide (1 ≤ e.code ∧ e.code ≤ 99 ∧ 0 ≤ e.at_)
  else if e.kind = 6 ∧ (noB e.text = true ∨ nmOk e.text = false) then false
  else nmOk e.anchor && (decide (e.tag.size ≤ 120) && decide (e.code = 0 ∧ e.at_ = 0))
def evBad (e : Ev) : Bool := (e.flag && (e.kind != 2 && e.kind != 8)) || ((!noB e.text && (e.kind != 5 && e.kind != 6)) || ((!noB e.anchor || !noB e.tag) && !nodeK e.kind))
def evOk (e : Ev) : Bool :=
  if e.kind < 1 ∨ 10 < e.kind ∨ e.style < loK e.kind ∨ hiK e.kind < e.style then false
  else if evBad e = true then false
  else evRest e
theorem nm_step {s : ByteArray} {i : Nat} (hi : i < s.size) (h : pNm (bt s i) = true) : fwd pNm s i = fwd pNm s (i + 1) := fwd_step hi h
theorem nm_no {s : ByteArray} {i : Nat} (hi : i < s.size) (h : pNm (bt s i) = false) (hf : fwd pNm s 0 = fwd pNm s i) : nmOk s = false := by
  unfold nmOk
  rw [hf, fwd_stop h, decide_eq_false (by omega)]
  rfl
end Go.Proofs.YtgaibajkegfpoaaDoor
