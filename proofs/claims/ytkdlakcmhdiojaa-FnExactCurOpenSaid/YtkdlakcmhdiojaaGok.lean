/- When a graph is right: plain, and spec.GraphOk. -/
import Derived.Test.YtkdlakcmhdiojaaGsg
namespace Go.Proofs.Ytkdlakcmhdiojaa
open Go.ChangeShapes Go.WideShapes Go.ChangeAt Go.RowKit Go.Deep
/-- What was ended by an elder root is marked so. -/
def thrK : Nat → List Int → List Int
  | 0, l => l
  | k + 1, l => if (thrK k l).getD k 0 = 2 then (thrK k l).set k 3 else thrK k l
def endRoot (g : Gr) (f : Nat) (st : Ws) (r : Nat) : Ws := { goW g f r st with seen := thrK g.nodes.length (goW g f r st).seen }
def graphOkP (g : Gr) : Bool := decide (g.nodes.length ≤ 3000) && (g.nodes.all (fun n => nodeOkG n g.nodes.length) && (kidsIn g.nodes.length g.roots &&
  (let st := g.roots.foldl (fun t r => endRoot g (g.nodes.length + 1) t r.toNat) ⟨List.replicate g.nodes.length 0, 0, false⟩
   !st.bad && decide (st.next = (g.nodes.length : Int)))))
theorem thrK_len (k : Nat) (l : List Int) : (thrK k l).length = l.length := by
  induction k with
  | zero => rfl
  | succ k ih =>
    rw [thrK]
    split
    · rw [List.length_set]; exact ih
    · exact ih
theorem thrK_inv {g : Gr} {st : Ws} (h : WInv g st) (k : Nat) : WInv g { st with seen := thrK k st.seen } := by
  induction k with
  | zero => exact h
  | succ k ih =>
    rw [thrK]
    split
    · have := inv_leave (i := k) (v := 3) (by decide) ih
      exact this
    · exact ih
theorem endRoot_inv {g : Gr} (hk : ∀ i, ∀ k ∈ kidsOf g i, 0 ≤ k ∧ k < (g.nodes.length : Int)) {f : Nat} {st : Ws} {r : Nat} (hr : r < g.nodes.length) (h : WInv g st) : WInv g (endRoot g f st r) := thrK_inv (goW_inv g hk f r st hr h) _
theorem zeros_len (l : List Int) : zeros l ≤ l.length := List.countP_le_length
theorem roots_inv {g : Gr} (hk : ∀ i, ∀ k ∈ kidsOf g i, 0 ≤ k ∧ k < (g.nodes.length : Int)) (f : Nat) : ∀ (l : List Int) (st : Ws), (∀ r ∈ l, 0 ≤ r ∧ r < (g.nodes.length : Int)) → WInv g st → WInv g (l.foldl (fun t r => endRoot g f t r.toNat) st)
  | [], _, _, h => h
  | r :: l, st, hl, h => by
    have h0 := hl r (List.mem_cons_self ..)
    exact roots_inv hk f l _ (fun x hx => hl x (List.mem_cons_of_mem _ hx)) (endRoot_inv hk (by omega) h)
theorem start_inv {g : Gr} (h : g.nodes.length ≤ 3000) : WInv g ⟨List.replicate g.nodes.length 0, 0, false⟩ := by
  refine ⟨by simp, fun x hx => ?_, Int.le_refl _, ?_⟩
  · obtain rfl := List.eq_of_mem_replicate hx
    decide
  · have := zeros_len (List.replicate g.nodes.length 0)
    simp only [List.length_replicate] at this
    show (0 : Int) + (zeros (List.replicate g.nodes.length 0) : Int) ≤ 1048576
    omega
theorem kids_in {g : Gr} (h : g.nodes.all (fun n => nodeOkG n g.nodes.length) = true) : ∀ i, ∀ k ∈ kidsOf g i, 0 ≤ k ∧ k < (g.nodes.length : Int) := by
  intro i k hk
  unfold kidsOf at hk
  cases e : g.nodes[i]? with
  | none => rw [e] at hk; cases hk
  | some n =>
    rw [e] at hk
    rw [List.all_eq_true] at h
    have h1 := h n (List.mem_of_getElem? e)
    unfold nodeOkG at h1
    rw [Bool.and_eq_true] at h1
    have h2 := h1.2
    unfold kidsIn at h2
    rw [List.all_eq_true] at h2
    exact of_decide_eq_true (h2 k hk)
theorem ok_many {g : Gr} (h : 3000 < g.nodes.length) : graphOkP g = false := by unfold graphOkP; simp [show ¬ g.nodes.length ≤ 3000 by omega]
theorem ok_node {g : Gr} {k : Nat} {n : Nd} (hx : g.nodes[k]? = some n) (h : nodeOkG n g.nodes.length = false) : graphOkP g = false := by
  have : g.nodes.all (fun n => nodeOkG n g.nodes.length) = false := by
    rw [Bool.eq_false_iff]
    intro ha
    rw [List.all_eq_true] at ha
    rw [ha n (List.mem_of_getElem? hx)] at h
    cases h
  unfold graphOkP
  rw [this]
  simp
theorem ok_root {g : Gr} {k : Nat} {x : Int} (hx : g.roots[k]? = some x) (h : ¬ (0 ≤ x ∧ x < (g.nodes.length : Int))) : graphOkP g = false := by
  unfold graphOkP
  rw [kids_no hx h]
  simp
theorem ok_end {g : Gr} (h1 : g.nodes.length ≤ 3000) (h2 : g.nodes.all (fun n => nodeOkG n g.nodes.length) = true) (h3 : kidsIn g.nodes.length g.roots = true) {st : Ws} (h : g.roots.foldl (fun t r => endRoot g (g.nodes.length + 1) t r.toNat) ⟨List.replicate g.nodes.length 0, 0, false⟩ = st) : graphOkP g = (!st.bad && decide (st.next = (g.nodes.length : Int))) := by
  unfold graphOkP
  rw [h2, h3, h]
  simp [h1]
theorem roots_take {g : Gr} {f : Nat} {l : List Int} {k : Nat} {x : Int} (h : l[k]? = some x) (st : Ws) : (l.take (k + 1)).foldl (fun t r => endRoot g f t r.toNat) st = endRoot g f ((l.take k).foldl (fun t r => endRoot g f t r.toNat) st) x.toNat := by
  rw [List.take_add_one, h, List.foldl_append]
  rfl
theorem made_ints (N : Nat) : (madeCells #[.int .i64 0] N).toList = ilV (List.replicate N 0) := by
  apply List.ext_getElem
  · simp [size_madeCells, ilV]
  · intro i h1 h2
    simp [madeCells, ilV, Nat.mod_one]
end Go.Proofs.Ytkdlakcmhdiojaa
