/- When a node of a graph is right by itself: plain, and spec.l15Node. -/
import Derived.Test.YtkdlakcmhdiojaaGeq
namespace Go.Proofs.Ytkdlakcmhdiojaa
open Go.ChangeShapes Go.WideShapes Go.ChangeAt Go.RowKit Go.Deep
def headBad (n : Nd) : Bool := decide (120 < n.tag.size) || (decide (n.kind < 3) || (decide (5 < n.kind) || ((decide (n.kind = 4) && decide (n.kids.length % 2 = 1)) || ((decide (n.kind = 5) && decide (0 < n.kids.length)) || (decide (n.kind ≠ 5) && !n.text.toList.isEmpty)))))
def kidsIn (most : Nat) (l : List Int) : Bool := l.all fun k => decide (0 ≤ k ∧ k < (most : Int))
def nodeOkG (n : Nd) (most : Nat) : Bool := !headBad n && kidsIn most n.kids
theorem kids_no {most : Nat} {l : List Int} {k : Nat} {x : Int} (h : l[k]? = some x) (hx : ¬ (0 ≤ x ∧ x < (most : Int))) : kidsIn most l = false := by
  unfold kidsIn
  rw [Bool.eq_false_iff]
  intro ha
  rw [List.all_eq_true] at ha
  have := ha x (List.mem_of_getElem? h)
  exact hx (of_decide_eq_true this)
theorem kids_yes {most : Nat} {l : List Int} (h : ∀ (k : Nat) (x : Int), l[k]? = some x → 0 ≤ x ∧ x < (most : Int)) : kidsIn most l = true := by
  unfold kidsIn
  rw [List.all_eq_true]
  intro x hx
  obtain ⟨k, hk⟩ := List.mem_iff_getElem?.1 hx
  exact decide_eq_true (h k x hk)
end Go.Proofs.Ytkdlakcmhdiojaa
