/- spec.l15Go goes through a graph as the plain function does. -/
import Derived.Test.YtkdlakcmhdiojaaGgo
namespace Go.Proofs.Ytkdlakcmhdiojaa
open Go.ChangeShapes Go.WideShapes Go.ChangeAt Go.RowKit Go.Deep
theorem kids_at {g : Gr} {i : Nat} {n : Nd} (h : g.nodes[i]? = some n) : kidsOf g i = n.kids := by unfold kidsOf; rw [h]
theorem goW_bad {g : Gr} {f i : Nat} {st : Ws} (h : st.bad = true ∨ st.seen.getD i 0 = 1 ∨ (st.seen.getD i 0 = 0 ∧ (i : Int) ≠ st.next) ∨ st.seen.getD i 0 = 3) : goW g (f + 1) i st = { st with bad := true } := by rw [goW, if_pos h]
theorem goW_met {g : Gr} {f i : Nat} {st : Ws} (h1 : ¬ (st.bad = true ∨ st.seen.getD i 0 = 1 ∨ (st.seen.getD i 0 = 0 ∧ (i : Int) ≠ st.next) ∨ st.seen.getD i 0 = 3)) (h : st.seen.getD i 0 = 2) : goW g (f + 1) i st = st := by rw [goW, if_neg h1, if_pos h]
theorem goW_new {g : Gr} {f i : Nat} {st : Ws} (h1 : ¬ (st.bad = true ∨ st.seen.getD i 0 = 1 ∨ (st.seen.getD i 0 = 0 ∧ (i : Int) ≠ st.next) ∨ st.seen.getD i 0 = 3)) (h : ¬ st.seen.getD i 0 = 2) :
    goW g (f + 1) i st = { (kidsOf g i).foldl (fun t k => goW g f k.toNat t) { st with seen := st.seen.set i 1, next := st.next + 1 } with seen := ((kidsOf g i).foldl (fun t k => goW g f k.toNat t) { st with seen := st.seen.set i 1, next := st.next + 1 }).seen.set i 2 } := by rw [goW, if_neg h1, if_neg h]
theorem fold_take {g : Gr} {f : Nat} {l : List Int} {k : Nat} {x : Int} (h : l[k]? = some x) (st : Ws) : (l.take (k + 1)).foldl (fun t k => goW g f k.toNat t) st = goW g f x.toNat ((l.take k).foldl (fun t k => goW g f k.toNat t) st) := by
  rw [List.take_add_one, h, List.foldl_append]
  rfl
theorem fold_inv {g : Gr} (hk : ∀ i, ∀ k ∈ kidsOf g i, 0 ≤ k ∧ k < (g.nodes.length : Int)) (f : Nat) : ∀ (l : List Int) (t : Ws), (∀ k ∈ l, 0 ≤ k ∧ k < (g.nodes.length : Int)) → WInv g t → WInv g (l.foldl (fun t k => goW g f k.toNat t) t) ∧ zeros (l.foldl (fun t k => goW g f k.toNat t) t).seen ≤ zeros t.seen
  | [], t, _, h => ⟨h, Nat.le_refl _⟩
  | k :: l, t, hl, h => by
    have hk0 := hl k (List.mem_cons_self ..)
    have h1 := goW_inv g hk f k.toNat t (by omega) h
    have h2 := fold_inv hk f l _ (fun x hx => hl x (List.mem_cons_of_mem _ hx)) h1
    exact ⟨h2.1, Nat.le_trans h2.2 (goW_keep g f k.toNat t).2⟩
end Go.Proofs.Ytkdlakcmhdiojaa
