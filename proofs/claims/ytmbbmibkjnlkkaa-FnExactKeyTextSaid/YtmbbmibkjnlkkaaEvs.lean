/- Events, as they lie, and what EventOk answers, as plain functions. -/
import Derived.Test.YtmbbmibkjnlkkaaFlw
namespace Go.Proofs.Ytmbbmibkjnlkkaa
open Go.RowKit
structure Ev where
  kind : Int
  style : Int
  flag : Bool
  text : ByteArray
  anchor : ByteArray
  tag : ByteArray
  at_ : Int
  code : Int
/-- An event's cells. -/
def Ev.row (e : Ev) : Array Value := #[.int .i64 e.kind, .int .i64 e.style, .bool e.flag, .string e.text, .string e.anchor, .string e.tag, .int .i64 e.at_, .int .i64 e.code]
/-- A byte that a name may have. -/
def pNm (c : Nat) : Bool := !(pG c || pF6 c)
def nmOk (s : ByteArray) : Bool := decide (fwd pNm s 0 = s.size) && decide (s.size ≤ 60)
def nodeK (k : Int) : Bool := k == 3 || k == 4 || k == 5
def loK (k : Int) : Int := if k = 5 then 1 else if k = 3 ∨ k = 4 then 6 else 0
def hiK (k : Int) : Int := if k = 5 then 5 else if k = 3 ∨ k = 4 then 7 else 0
def noB (s : ByteArray) : Bool := s.toList == []
/-- What comes behind the tests that all kinds have. -/
def evRest (e : Ev) : Bool :=
  if e.kind = 10 then decide (1 ≤ e.code ∧ e.code ≤ 99 ∧ 0 ≤ e.at_)
  else if e.kind = 6 ∧ (noB e.text = true ∨ nmOk e.text = false) then false
  else nmOk e.anchor && (decide (e.tag.size ≤ 120) && decide (e.code = 0 ∧ e.at_ = 0))
def evBad (e : Ev) : Bool := (e.flag && (e.kind != 2 && e.kind != 8)) || ((!noB e.text && (e.kind != 5 && e.kind != 6)) || ((!noB e.anchor || !noB e.tag) && !nodeK e.kind))
def evOk (e : Ev) : Bool :=
  if e.kind < 1 ∨ 10 < e.kind ∨ e.style < loK e.kind ∨ hiK e.kind < e.style then false
  else if evBad e = true then false
  else evRest e
theorem nm_step {s : ByteArray} {i : Nat} (hi : i < s.size) (h : pNm (bt s i) = true) : fwd pNm s i = fwd pNm s (i + 1) := fwd_step hi h
theorem nm_no {s : ByteArray} {i : Nat} (hi : i < s.size) (h : pNm (bt s i) = false) (hf : fwd pNm s 0 = fwd pNm s i) : nmOk s = false := by
  unfold nmOk
  rw [hf, fwd_stop h, decide_eq_false (by omega)]
  rfl
end Go.Proofs.Ytmbbmibkjnlkkaa
