/- Going through a graph: plain, and spec.l15Go. -/
import Derived.Test.YtkdlakcmhdiojaaGsn
import Derived.Laws.OwnMore
namespace Go.Proofs.Ytkdlakcmhdiojaa
open Go.ChangeShapes Go.WideShapes Go.ChangeAt Go.RowKit Go.Deep
/-- What is known on the way: which nodes were met, how many, and whether one was met badly. -/
structure Ws where
  seen : List Int
  next : Int
  bad : Bool
def kidsOf (g : Gr) (i : Nat) : List Int := match g.nodes[i]? with | some n => n.kids | none => []
/-- A node is met; f is more than the nodes that weren't. -/
def goW (g : Gr) : Nat → Nat → Ws → Ws
  | 0, _, st => st
  | f + 1, i, st =>
    if st.bad = true ∨ st.seen.getD i 0 = 1 ∨ (st.seen.getD i 0 = 0 ∧ (i : Int) ≠ st.next) ∨ st.seen.getD i 0 = 3 then { st with bad := true }
    else if st.seen.getD i 0 = 2 then st
    else
      let st2 := (kidsOf g i).foldl (fun t k => goW g f k.toNat t) { st with seen := st.seen.set i 1, next := st.next + 1 }
      { st2 with seen := st2.seen.set i 2 }
def zeros (l : List Int) : Nat := l.countP fun x => x == 0
theorem zeros_set {l : List Int} {i : Nat} {v : Int} (hv : v ≠ 0) : zeros (l.set i v) ≤ zeros l := by
  unfold zeros
  induction l generalizing i with
  | nil => simp
  | cons x t ih =>
    cases i with
    | zero =>
      have h0 : (v == 0) = false := by rw [beq_eq_false_iff_ne]; exact hv
      simp only [List.set_cons_zero, List.countP_cons, h0]
      simp
    | succ i =>
      have := ih (i := i)
      simp only [List.set_cons_succ, List.countP_cons]
      omega
theorem zeros_met {l : List Int} {i : Nat} {v : Int} (hv : v ≠ 0) (hi : l[i]? = some 0) : zeros (l.set i v) + 1 = zeros l := by
  unfold zeros
  induction l generalizing i with
  | nil => simp at hi
  | cons x t ih =>
    cases i with
    | zero =>
      obtain rfl : x = 0 := by simpa using hi
      have h0 : (v == 0) = false := by rw [beq_eq_false_iff_ne]; exact hv
      simp [h0]
    | succ i =>
      have := ih (i := i) (by simpa using hi)
      simp only [List.set_cons_succ, List.countP_cons]
      omega
theorem goW_keep (g : Gr) : ∀ (f i : Nat) (st : Ws), (goW g f i st).seen.length = st.seen.length ∧ zeros (goW g f i st).seen ≤ zeros st.seen
  | 0, i, st => ⟨rfl, Nat.le_refl _⟩
  | f + 1, i, st => by
    rw [goW]
    split
    · exact ⟨rfl, Nat.le_refl _⟩
    · split
      · exact ⟨rfl, Nat.le_refl _⟩
      · have fold : ∀ (l : List Int) (t : Ws), (l.foldl (fun t k => goW g f k.toNat t) t).seen.length = t.seen.length ∧ zeros (l.foldl (fun t k => goW g f k.toNat t) t).seen ≤ zeros t.seen := by
          intro l
          induction l with
          | nil => exact fun t => ⟨rfl, Nat.le_refl _⟩
          | cons k l ih =>
            intro t
            have h1 := goW_keep g f k.toNat t
            have h2 := ih (goW g f k.toNat t)
            exact ⟨h2.1.trans h1.1, Nat.le_trans h2.2 h1.2⟩
        have h := fold (kidsOf g i) { st with seen := st.seen.set i 1, next := st.next + 1 }
        refine ⟨?_, ?_⟩
        · show (List.set _ i 2).length = _
          rw [List.length_set, h.1]
          exact List.length_set
        · refine Nat.le_trans (zeros_set (by decide)) (Nat.le_trans h.2 (zeros_set (by decide)))
section
variable {w0 w : World} {B S c : Nat} {nv rv : Value} {st : Ws}
end
/-- What holds on the way. -/
structure WInv (g : Gr) (st : Ws) : Prop where
  len : st.seen.length = g.nodes.length
  ok : ∀ x ∈ st.seen, 0 ≤ x ∧ x ≤ 3
  nx0 : 0 ≤ st.next
  nx : st.next + (zeros st.seen : Int) ≤ 1048576
theorem ok_set {l : List Int} {i : Nat} {v : Int} (h : ∀ x ∈ l, 0 ≤ x ∧ x ≤ 3) (hv : 0 ≤ v ∧ v ≤ 3) : ∀ x ∈ l.set i v, 0 ≤ x ∧ x ≤ 3 := fun x hx => by
  rcases List.mem_or_eq_of_mem_set hx with h1 | rfl
  · exact h x h1
  · exact hv
/-- A node that is neither met badly nor ended wasn't met, and is the next one. -/
theorem met_new {g : Gr} {st : Ws} {i : Nat} (hI : WInv g st) (hi : i < g.nodes.length) (h1 : ¬ (st.bad = true ∨ st.seen.getD i 0 = 1 ∨ (st.seen.getD i 0 = 0 ∧ (i : Int) ≠ st.next) ∨ st.seen.getD i 0 = 3)) (h2 : ¬ st.seen.getD i 0 = 2) : st.bad = false ∧ st.seen[i]? = some 0 ∧ (i : Int) = st.next := by
  have hl : i < st.seen.length := by rw [hI.len]; exact hi
  have hg : st.seen[i]? = some st.seen[i] := List.getElem?_eq_getElem hl
  have hd : st.seen.getD i 0 = st.seen[i] := by simp [List.getD, hg]
  have hr := hI.ok _ (List.getElem_mem hl)
  rw [hd] at h1 h2
  have h0 : st.seen[i] = 0 := by
    have a : st.seen[i] ≠ 1 := fun h => h1 (.inr (.inl h))
    have b : st.seen[i] ≠ 3 := fun h => h1 (.inr (.inr (.inr h)))
    omega
  refine ⟨?_, by rw [hg, h0], ?_⟩
  · cases hb : st.bad with
    | false => rfl
    | true => exact absurd (.inl hb) h1
  · rcases Int.decEq (i : Int) st.next with h | h
    · exact absurd (.inr (.inr (.inl ⟨h0, h⟩))) h1
    · exact h
theorem inv_enter {g : Gr} {st : Ws} {i : Nat} (hI : WInv g st) (h0 : st.seen[i]? = some 0) : WInv g { st with seen := st.seen.set i 1, next := st.next + 1 } ∧ zeros (st.seen.set i 1) + 1 = zeros st.seen := by
  have hz := zeros_met (v := 1) (by decide) h0
  refine ⟨⟨?_, ok_set hI.ok (by decide), ?_, ?_⟩, hz⟩
  · show (st.seen.set i 1).length = _
    rw [List.length_set]
    exact hI.len
  · show 0 ≤ st.next + 1
    have := hI.nx0
    omega
  · show st.next + 1 + (zeros (st.seen.set i 1) : Int) ≤ 1048576
    have := hI.nx
    omega
theorem inv_leave {g : Gr} {st : Ws} {i : Nat} {v : Int} (hv : 0 < v ∧ v ≤ 3) (hI : WInv g st) : WInv g { st with seen := st.seen.set i v } := by
  refine ⟨?_, ok_set hI.ok ⟨by omega, hv.2⟩, hI.nx0, ?_⟩
  · show (st.seen.set i v).length = _
    rw [List.length_set]
    exact hI.len
  · show st.next + (zeros (st.seen.set i v) : Int) ≤ 1048576
    have := zeros_set (l := st.seen) (i := i) (v := v) (by omega)
    have := hI.nx
    omega
theorem goW_inv (g : Gr) (hk : ∀ i, ∀ k ∈ kidsOf g i, 0 ≤ k ∧ k < (g.nodes.length : Int)) : ∀ (f i : Nat) (st : Ws), i < g.nodes.length → WInv g st → WInv g (goW g f i st)
  | 0, i, st, _, h => h
  | f + 1, i, st, hi, h => by
    rw [goW]
    split
    · exact ⟨h.len, h.ok, h.nx0, h.nx⟩
    · split
      · exact h
      · rename_i h1 h2
        obtain ⟨_, h0, _⟩ := met_new h hi h1 h2
        have fold : ∀ (l : List Int) (t : Ws), (∀ k ∈ l, 0 ≤ k ∧ k < (g.nodes.length : Int)) → WInv g t → WInv g (l.foldl (fun t k => goW g f k.toNat t) t) := by
          intro l
          induction l with
          | nil => exact fun t _ ht => ht
          | cons k l ih =>
            intro t hl ht
            have hk0 := hl k (List.mem_cons_self ..)
            exact ih _ (fun x hx => hl x (List.mem_cons_of_mem _ hx)) (goW_inv g hk f k.toNat t (by omega) ht)
        exact inv_leave (by decide) (fold (kidsOf g i) _ (hk i) (inv_enter h h0).1)
end Go.Proofs.Ytkdlakcmhdiojaa
