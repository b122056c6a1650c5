/- Which nodes of a graph are shared: plain, and the counts in memory. -/
import Derived.Test.YtkdlakcmhdiojaaGov
import Derived.Test.YtkdlakcmhdiojaaPsh
namespace Go.Proofs.Ytkdlakcmhdiojaa
open Go.ChangeShapes Go.WideShapes Go.ChangeAt Go.RowKit Go.Deep
def incAt (l : List Int) (k : Nat) : List Int := l.set k (l.getD k 0 + 1)
def cntI (l : List Int) (ks : List Int) : List Int := ks.foldl (fun l k => incAt l k.toNat) l
def cntN (l : List Int) (ns : List Nd) : List Int := ns.foldl (fun l n => cntI l n.kids) l
def sharedTo (l : List Int) : Nat → List Int
  | 0 => []
  | k + 1 => if 1 < l.getD k 0 then sharedTo l k ++ [(k : Int)] else sharedTo l k
def sharedG (g : Gr) : List Int := if graphOkP g = true then sharedTo (cntN (cntI (List.replicate g.nodes.length 0) g.roots) g.nodes) g.nodes.length else []
theorem cntI_take {l ks : List Int} {k : Nat} {x : Int} (h : ks[k]? = some x) : cntI l (ks.take (k + 1)) = incAt (cntI l (ks.take k)) x.toNat := by
  unfold cntI
  rw [List.take_add_one, h, List.foldl_append]
  rfl
theorem cntN_take {l : List Int} {ns : List Nd} {k : Nat} {n : Nd} (h : ns[k]? = some n) : cntN l (ns.take (k + 1)) = cntI (cntN l (ns.take k)) n.kids := by
  unfold cntN
  rw [List.take_add_one, h, List.foldl_append]
  rfl
theorem sharedTo_len (l : List Int) (k : Nat) : (sharedTo l k).length ≤ k := by
  induction k with
  | zero => exact Nat.le_refl _
  | succ k ih =>
    rw [sharedTo]
    split
    · rw [List.length_append]; simp; exact ih
    · omega
/-- The counts: as many as nodes, none above m. -/
structure Cn (N m : Nat) (l : List Int) : Prop where
  len : l.length = N
  bd : ∀ x ∈ l, 0 ≤ x ∧ x ≤ (m : Int)
theorem Cn.getD {N m : Nat} {l : List Int} (h : Cn N m l) (k : Nat) : 0 ≤ l.getD k 0 ∧ l.getD k 0 ≤ (m : Int) := by
  by_cases hk : k < l.length
  · have : l.getD k 0 = l[k] := by simp [List.getD, List.getElem?_eq_getElem hk]
    rw [this]
    exact h.bd _ (List.getElem_mem hk)
  · have : l.getD k 0 = 0 := by simp [List.getD, List.getElem?_eq_none (Nat.le_of_not_lt hk)]
    rw [this]
    omega
theorem Cn.inc {N m : Nat} {l : List Int} (h : Cn N m l) (k : Nat) : Cn N (m + 1) (incAt l k) := by
  refine ⟨by unfold incAt; rw [List.length_set]; exact h.len, fun x hx => ?_⟩
  have hg := h.getD k
  rcases List.mem_or_eq_of_mem_set hx with h1 | rfl
  · have := h.bd x h1
    omega
  · omega
theorem Cn.ints {N : Nat} : ∀ (ks : List Int) (m : Nat) (l : List Int), Cn N m l → Cn N (m + ks.length) (cntI l ks)
  | [], _, _, h => h
  | k :: ks, m, l, h => by
    have := Cn.ints ks (m + 1) _ (h.inc k.toNat)
    rw [List.length_cons, show m + (ks.length + 1) = m + 1 + ks.length by omega]
    exact this
theorem Cn.mono {N m m' : Nat} {l : List Int} (h : Cn N m l) (hm : m ≤ m') : Cn N m' l := ⟨h.len, fun x hx => by have := h.bd x hx; omega⟩
theorem Cn.nodes {N : Nat} : ∀ (ns : List Nd) (m : Nat) (l : List Int), Cn N m l → Cn N (m + totN ns) (cntN l ns)
  | [], _, _, h => h
  | n :: ns, m, l, h => by
    have := Cn.nodes ns _ _ (Cn.ints n.kids m l h)
    refine this.mono ?_
    show m + n.kids.length + totN ns ≤ m + totN (n :: ns)
    have e : totN (n :: ns) = n.tot + totN ns := rfl
    rw [e]
    unfold Nd.tot
    omega
theorem Cn.zero (N : Nat) : Cn N 0 (List.replicate N 0) := ⟨by simp, fun x hx => by obtain rfl := List.eq_of_mem_replicate hx; decide⟩
theorem ok_parts {g : Gr} (h : graphOkP g = true) : g.nodes.length ≤ 3000 ∧ (∀ i, ∀ k ∈ kidsOf g i, 0 ≤ k ∧ k < (g.nodes.length : Int)) ∧ ∀ k ∈ g.roots, 0 ≤ k ∧ k < (g.nodes.length : Int) := by
  unfold graphOkP at h
  rw [Bool.and_eq_true, Bool.and_eq_true, Bool.and_eq_true] at h
  obtain ⟨h1, h2, h3, _⟩ := h
  refine ⟨of_decide_eq_true h1, kids_in h2, fun k hk => ?_⟩
  unfold kidsIn at h3
  rw [List.all_eq_true] at h3
  exact of_decide_eq_true (h3 k hk)
/-- The counts in memory. -/
structure CAt (P : World) (S N : Nat) (l : List Int) (w : World) : Prop where
  row : w.ownsRow P.heap.size 3 1 (.slice (some ⟨S, 0, none⟩) N N) N (ilV l)
  below : Below P.heap.size P w
section
variable {P w w' : World} {S N : Nat} {l : List Int}
theorem CAt.slo (h : CAt P S N l w) : P.heap.size ≤ S ∧ S < w.heap.size := h.row.lt S rfl
theorem CAt.cells (h : CAt P S N l w) (hl : l.length = N) {i : Nat} (hi : i < N) : w.cell? ⟨S, i, none⟩ = some (.int .i64 (l.getD i 0)) ∧ w.frozen? ⟨S, i, none⟩ = false := by
  refine ⟨?_, h.row.frozenAt i⟩
  rw [h.row.cellAt i (by omega)]
  unfold ilV
  have hi' : i < l.length := by omega
  rw [List.getElem?_map, List.getElem?_eq_getElem hi']
  simp [List.getD, List.getElem?_eq_getElem hi']
theorem CAt.set (h : CAt P S N l w) (i : Nat) (v : Int) : CAt P S N (l.set i v) (w.setCell ⟨S, i, none⟩ (.int .i64 v)) := by
  refine ⟨?_, h.below.setCell (by show P.heap.size ≤ S; exact h.slo.1) _⟩
  have h1 := (h.row.stored i (.int .i64 v)).1
  have e : ilV (l.set i v) = (ilV l).set i (.int .i64 v) := by unfold ilV; rw [List.map_set]
  rw [e]
  exact h1
theorem CAt.alloc (h : CAt P S N l w) (o : Obj) : CAt P S N l (w.alloc o) := ⟨h.row.alloc _, h.below.alloc h.below.size _⟩
end
theorem cat_start (w : World) (N : Nat) (hN : N ≤ 3000) : CAt w w.heap.size N (List.replicate N 0) (w.alloc (.cells (madeCells #[.int .i64 0] N) 3)) := by
  refine ⟨⟨by simp [ilV], .inr ⟨w.heap.size, N, madeCells #[.int .i64 0] N, rfl, Nat.le_refl _, heap_alloc_new w _, Nat.le_refl _, by unfold maxLen; omega, by simp [size_madeCells], ?_⟩⟩, (Below.refl _ w).alloc (Nat.le_refl _) _⟩
  rw [made_ints]
  exact List.take_of_length_le (by simp [ilV])
end Go.Proofs.Ytkdlakcmhdiojaa
