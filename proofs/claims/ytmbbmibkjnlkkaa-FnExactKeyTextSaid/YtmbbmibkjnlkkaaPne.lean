/- Nodes within events, as plain functions: where a node ends. -/
import Derived.Test.YtmbbmibkjnlkkaaEvl
import Derived.Test.YtmbbmibkjnlkkaaPnt
namespace Go.Proofs.Ytmbbmibkjnlkkaa
open Go.RowKit
def colE (e : Ev) : Bool := decide (e.kind = 3) || decide (e.kind = 4)
def nodE (e : Ev) : Bool := decide (3 ≤ e.kind) && decide (e.kind ≤ 6)
def opn (e : Ev) (o : Int) : Int := if colE e = true then o + 1 else if e.kind = 7 then o - 1 else o
def endG : List Ev → Nat → Int → Int
  | [], _, _ => -1
  | e :: t, k, o => if opn e o = 0 then (k : Int) else endG t (k + 1) (opn e o)
/-- Where the node i ends. -/
def endN (l : List Ev) (i : Nat) : Int := match l[i]? with
  | none => -1
  | some e => if nodE e = false then -1 else endG (l.drop i) i 0
def endOf (l : List Ev) (i : Int) : Int := if nested l = false ∨ i < 0 ∨ (l.length : Int) ≤ i then -1 else endN l i.toNat
theorem endG_le : ∀ (l : List Ev) (k : Nat) (o : Int), endG l k o = -1 ∨ ((k : Int) ≤ endG l k o ∧ endG l k o < (k : Int) + l.length)
  | [], k, o => .inl rfl
  | e :: t, k, o => by
    rw [endG]
    split
    · right
      simp
      omega
    · rcases endG_le t (k + 1) (opn e o) with h | h
      · exact .inl h
      · right
        simp at h ⊢
        omega
theorem endN_le (l : List Ev) (i : Nat) (hi : i ≤ l.length) : endN l i = -1 ∨ ((i : Int) ≤ endN l i ∧ endN l i < l.length) := by
  unfold endN
  split
  · exact .inl rfl
  · split
    · exact .inl rfl
    · rcases endG_le (l.drop i) i 0 with h | h
      · exact .inl h
      · right
        rw [List.length_drop] at h
        omega
theorem drop_ev {l : List Ev} {k : Nat} {e : Ev} (h : l[k]? = some e) : l.drop k = e :: l.drop (k + 1) := by
  have hlt : k < l.length := (List.getElem?_eq_some_iff.1 h).1
  rw [List.drop_eq_getElem_cons hlt]
  congr 1
  exact (List.getElem?_eq_some_iff.1 h).2
/-- The collection around: back from k. -/
def upG (l : List Ev) : Nat → Int → Int
  | 0, _ => -1
  | k + 1, o => match l[k]? with
    | none => -1
    | some e => if e.kind = 7 then upG l k (o + 1) else if colE e = true then (if o = 0 then (k : Int) else upG l k (o - 1)) else upG l k o
def upOf (l : List Ev) (i : Int) : Int := if nested l = false ∨ i < 0 ∨ (l.length : Int) ≤ i then -1 else upG l i.toNat 0
def namE (e : Ev) (x : ByteArray) : Bool := nodE e && (!noB e.anchor && decide (e.anchor = x))
/-- The node of an alias: back from k. -/
def defG (l : List Ev) (i : Nat) (x : ByteArray) : Nat → Int
  | 0 => -1
  | k + 1 => match l[k]? with
    | none => -1
    | some e => if e.kind = 2 then -1 else if namE e x = true then (if endN l k < 0 ∨ (i : Int) < endN l k then -1 else (k : Int)) else defG l i x k
def defN (l : List Ev) (i : Nat) : Int := match l[i]? with
  | none => -1
  | some e => defG l i e.text i
def kindAt (l : List Ev) (i : Nat) : Int := match l[i]? with
  | none => 0
  | some e => e.kind
def defOf (l : List Ev) (i : Int) : Int := if nested l = false ∨ i < 0 ∨ (l.length : Int) ≤ i ∨ kindAt l i.toNat ≠ 6 then -1 else defN l i.toNat
/-- The nodes of a collection, from k on. -/
def kidG (l : List Ev) : Nat → Nat → List Nat → List Nat
  | 0, _, acc => acc
  | f + 1, k, acc => match l[k]? with
    | none => acc
    | some e => if nodE e = false then acc else if endN l k < 0 then acc ++ [k] else kidG l f ((endN l k).toNat + 1) (acc ++ [k])
def kidN (l : List Ev) (i : Nat) : List Nat := match l[i]? with
  | none => []
  | some e => if colE e = false then [] else kidG l (l.length + 1) (i + 1) []
def kidsOfE (l : List Ev) (i : Int) : List Nat := if nested l = false ∨ i < 0 ∨ (l.length : Int) ≤ i then [] else kidN l i.toNat
def rootAt (l : List Ev) (n : Bool) (i : Nat) : Bool := decide (0 < i) && (decide (kindAt l (i - 1) = 2) && ((match l[i]? with | none => false | some e => nodE e) && n))
def rootsTo (l : List Ev) (k : Nat) : List Nat := (List.range k).filter (rootAt l (nested l))
def rootsOf (l : List Ev) : List Nat := rootsTo l l.length
def tiedAt (l : List Ev) (i : Nat) : Bool := !(decide (kindAt l i = 6)) || decide (0 ≤ defN l i)
def tiedTo (l : List Ev) (k : Nat) : Bool := (List.range k).all (tiedAt l)
def tied (l : List Ev) : Bool := nested l && tiedTo l l.length
def whole (l : List Ev) : Bool := tied l && decide (kindAt l (l.length - 1) ≠ 10)
end Go.Proofs.Ytmbbmibkjnlkkaa
