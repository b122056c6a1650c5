/- A copy of a graph, which is the call's own; what is owned can be read. -/
import Derived.Test.YtkdlakcmhdiojaaGtn
namespace Go.Proofs.Ytkdlakcmhdiojaa
open Go.ChangeShapes Go.WideShapes Go.ChangeAt Go.RowKit Go.Deep
/-- A graph of the call's own: its nodes, their kids and its roots, each list in a block of its own. -/
structure GOwn (lo : Nat) (w : World) (nv rv : Value) (g : Gr) (vs : List Value) : Prop where
  nodes : w.ownsRow lo 70 4 nv g.nodes.length (cellsN g.nodes vs)
  kids : KidsOwn lo w vs g.nodes
  roots : w.ownsRow lo 3 1 rv g.roots.length (ilV g.roots)
  apart : ∀ (i : Nat) (a : Value) (x : Nat), vs[i]? = some a → a.ownBlock = some x → rv.ownBlock ≠ some x
theorem cellsN_at : ∀ (ns : List Nd) (vs : List Value) (i : Nat) (n : Nd) (v : Value), ns[i]? = some n → vs[i]? = some v → ∀ j u, [Value.int .i64 n.kind, .string n.tag, .string n.text, v][j]? = some u → (cellsN ns vs)[i * 4 + j]? = some u
  | [], _, i, n, v, h, _, _, _, _ => by simp at h
  | _ :: _, [], i, n, v, _, h, _, _, _ => by simp at h
  | m :: t, x :: y, 0, n, v, h, h', j, u, hu => by
    obtain rfl : m = n := by simpa using h
    obtain rfl : x = v := by simpa using h'
    have hj : j < 4 := (List.getElem?_eq_some_iff.1 hu).1
    rw [Nat.zero_mul, Nat.zero_add, cellsN]
    match j, hj, hu with
    | 0, _, hu => exact hu
    | 1, _, hu => exact hu
    | 2, _, hu => exact hu
    | 3, _, hu => exact hu
  | m :: t, x :: y, i + 1, n, v, h, h', j, u, hu => by
    rw [cellsN, show (i + 1) * 4 + j = (i * 4 + j) + 4 by omega]
    exact cellsN_at t y i n v (by simpa using h) (by simpa using h') j u hu
theorem nl_of_own {w : World} {lo : Nat} {nv : Value} {ns : List Nd} {vs : List Value} (h : w.ownsRow lo 70 4 nv ns.length (cellsN ns vs)) (hk : KidsOwn lo w vs ns) : NlAt w nv ns := by
  by_cases hz : ns = []
  · subst hz
    left
    rcases h.2 with ⟨e, _⟩ | ⟨g, cap, cur, e, _⟩
    · exact ⟨rfl, _, _, e⟩
    · exact ⟨rfl, _, _, e⟩
  · right
    have hpos : 0 < ns.length := List.length_pos_iff.2 hz
    rcases h.2 with ⟨_, e⟩ | ⟨g, cap, cur, rfl, _, hg, _⟩
    · omega
    · refine ⟨hz, g, 0, cap, rfl, (Array.getElem?_eq_some_iff.1 hg).1, fun i n hi => ?_⟩
      have hil : i < vs.length := by rw [hk.len]; exact (List.getElem?_eq_some_iff.1 hi).1
      have hv : vs[i]? = some vs[i] := List.getElem?_eq_getElem hil
      have hc : ∀ j u, [Value.int .i64 n.kind, .string n.tag, .string n.text, vs[i]][j]? = some u → w.cell? ⟨g, 0 + i * 4 + j, none⟩ = some u := fun j u hu => by
        have h1 := h.cells (g := g) rfl (i * 4 + j) u (cellsN_at ns vs i n _ hi hv j u hu)
        have a1 : (⟨g, 0, none⟩ : Addr).add (i * 4 + j) = ⟨g, i * 4 + j, none⟩ := by unfold Addr.add; split <;> simp_all
        rw [a1] at h1
        rw [Nat.zero_add]
        exact h1
      exact ⟨vs[i], hc 0 _ rfl, hc 1 _ rfl, hc 2 _ rfl, hc 3 _ rfl, il_of_own (hk.own i _ n hv hi)⟩
theorem GOwn.at {lo : Nat} {w : World} {nv rv : Value} {g : Gr} {vs : List Value} (h : GOwn lo w nv rv g vs) : GrAt w nv rv g := ⟨nl_of_own h.nodes h.kids, il_of_own h.roots⟩
theorem GOwn.later {lo : Nat} {w w' : World} {nv rv : Value} {g : Gr} {vs : List Value} (h : GOwn lo w nv rv g vs) (hb : Below w.heap.size w w') : GOwn lo w' nv rv g vs :=
  ⟨g_row_below h.nodes hb, h.kids.later hb, g_row_below h.roots hb, h.apart⟩
theorem GOwn.lower {lo lo' : Nat} {w : World} {nv rv : Value} {g : Gr} {vs : List Value} (h : GOwn lo w nv rv g vs) (hl : lo' ≤ lo) : GOwn lo' w nv rv g vs :=
  ⟨g_row_lower h.nodes hl, ⟨h.kids.len, fun i v n hv hn => g_row_lower (h.kids.own i v n hv hn) hl, h.kids.apart⟩, g_row_lower h.roots hl, h.apart⟩
section
variable {w : World} {b : Nat} {x0 x1 : Value} {t : TypeId}
theorem n2_0 (h : w.heap[b]? = some (.cells #[x0, x1] t (0, 0))) : w.cell? ⟨b, 0, none⟩ = some x0 := by simp [World.cell?, h]
theorem n2_1 (h : w.heap[b]? = some (.cells #[x0, x1] t (0, 0))) : w.cell? ⟨b, 1, none⟩ = some x1 := by simp [World.cell?, h]
theorem n2_f (h : w.heap[b]? = some (.cells #[x0, x1] t (0, 0))) (i : Nat) : w.frozen? ⟨b, i, none⟩ = false := by simp [World.frozen?, h]
theorem n2_set0 (h : w.heap[b]? = some (.cells #[x0, x1] t (0, 0))) (a : Value) : (w.setCell ⟨b, 0, none⟩ a).heap[b]? = some (.cells #[a, x1] t (0, 0)) := by
  simp [World.setCell, Array.getElem?_modify, h]
theorem n2_set1 (h : w.heap[b]? = some (.cells #[x0, x1] t (0, 0))) (a : Value) : (w.setCell ⟨b, 1, none⟩ a).heap[b]? = some (.cells #[x0, a] t (0, 0)) := by
  simp [World.setCell, Array.getElem?_modify, h]
end
end Go.Proofs.Ytkdlakcmhdiojaa
