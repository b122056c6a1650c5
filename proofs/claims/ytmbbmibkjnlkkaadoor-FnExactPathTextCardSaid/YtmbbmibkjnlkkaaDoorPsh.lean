/- One element more at the end of a row that the call owns. -/
import Derived.Maps.AppendAt
import Derived.Deep.AppendLies
import Derived.OwnWalk
import Derived.Below
import Derived.WalkKit
namespace Go.Proofs.YtmbbmibkjnlkkaaDoor
open Go.RowKit
def isSl' (v : Value) : Prop := ∃ a n c, v = .slice a n c
theorem append_run {P : Program} {w : World} {ops : Array Oper} {rest : List Oper} {o : Oper} {a : Act} {Q : Exit → Act → World → Prop}
    (hg : o.guard = none) (s x : Operand) (t : TypeId) (hop : o.op = Op.call { callee := Callee.builtin Builtin.append, args := #[s, x], argTypes := #[t, t] })
    (v u : Value) (hs : a.eval s = v) (hx : a.eval x = u) (r : Value) (w' : World) (hrun : (Builtin.append_ #[t, t] o.type #[v, u]).run P w = .ok r w')
    (hK : wpList P ops Q rest (a.put o.dst r) w') : wpList P ops Q (o :: rest) a w := by
  refine wpList_plain hg fun K hK' => ?_
  unfold Oper.wp execOp
  simp only [hop, resolve, invoke, builtin, Sem.run_bind, Sem.run_pure, Result.andThen_ok, List.map_toArray, List.map_cons, List.map_nil, hs, hx, hrun]
  exact hK' _ _ hK
theorem new_block (w : World) (o : Obj) : (w.alloc o).heap[w.heap.size]? = some o := by
  show (w.heap.push o)[w.heap.size]? = _
  simp
/-- The cells cs of one element come behind a row of n elements. -/
theorem push_own {P : Program} {ts e : TypeId} {z : Value} {sz bytes : Nat} (hu : P.underlying ts = some (.slice e)) (hi : (P.info? e).map (fun i => (i.zero, i.size, i.bytes)) = some (some z, sz, bytes)) (hz : z.cells.size = sz) (h0 : 0 < sz)
    (w : World) (lo : Nat) (v : Value) (n : Nat) (xs : List Value) (hown : w.ownsRow lo e sz v n xs) (cs : Array Value) (hl : cs.toList.length = sz) (h1 : ∀ u ∈ cs.toList, u.oneCell' = true) (hn : n ≤ 100000000) (hb : bytes ≤ 1000) (hlo : lo ≤ w.heap.size) (ty : TypeId) :
    ∃ v' w', (Builtin.append_ #[ts, ts] ty #[v, .slice (some ⟨w.heap.size, 0, none⟩) 1 1]).run P (w.alloc (.cells cs e)) = .ok v' w' ∧ isSl' v' ∧ w'.ownsRow lo e sz v' (n + 1) (xs ++ cs.toList) ∧ Below lo w w' ∧
      (∀ b, b < w.heap.size → v.ownBlock ≠ some b → w'.heap[b]? = w.heap[b]?) := by
  obtain ⟨ti, hti, hz0, hz1, hz2⟩ := info_parts hi
  obtain ⟨v2, w2, hr2, ho2, hg2, _, _⟩ := run_append_own_at (P := P) (w.alloc (.cells cs e)) lo ts ty e ti z sz bytes hu hti hz0 hz1 hz2 hz h0 v n xs (hown.alloc _) ⟨w.heap.size, 0, none⟩ 1 1 cs.toList (by rw [hl, Nat.one_mul])
    (World.news_of_block (cs := cs) (t := e) (fr := (0, 0)) (new_block w _)) h1 (by unfold maxLen; omega) (by
      have : (n + 1) * bytes ≤ 100000001 * 1000 := Nat.mul_le_mul (by omega) hb
      omega) (by simp; omega)
  have hsz : w.heap.size ≤ w2.heap.size := by have := hg2.size; simp at this; omega
  have hblk : ∀ b, b < w.heap.size → v.ownBlock ≠ some b → w2.heap[b]? = w.heap[b]? := fun b hb hne => (hg2.block b (by simp; omega) (fun e => hne e.symm)).trans (Below.heap_alloc w _ b hb)
  have hlo2 : ∀ b, v.ownBlock = some b → lo ≤ b := fun b hb => (hown.lt b hb).1
  refine ⟨v2, w2, hr2, ?_, ho2, ⟨hg2.os, hg2.tape, hg2.output, hsz, fun b hb => hblk b (by omega) (fun e => by have := hlo2 b e; omega)⟩, hblk⟩
  rcases ho2.2 with ⟨e, _⟩ | ⟨g, cap, cur, e, _⟩
  · exact ⟨_, _, _, e⟩
  · exact ⟨_, _, _, e⟩
/-- The cells cs of one element come behind a row of n elements. -/
theorem push_own2 {P : Program} {ts e : TypeId} {z : Value} {sz bytes : Nat} (hu : P.underlying ts = some (.slice e)) (hi : (P.info? e).map (fun i => (i.zero, i.size, i.bytes)) = some (some z, sz, bytes)) (hz : z.cells.size = sz) (h0 : 0 < sz)
    (w : World) (lo : Nat) (v : Value) (n : Nat) (xs : List Value) (hown : w.ownsRow lo e sz v n xs) (cs : Array Value) (hl : cs.toList.length = sz) (h1 : ∀ u ∈ cs.toList, u.oneCell' = true) (hn : n ≤ 100000000) (hb : bytes ≤ 1000) (hlo : lo ≤ w.heap.size) (ty : TypeId) :
    ∃ v' w', (Builtin.append_ #[ts, ts] ty #[v, .slice (some ⟨w.heap.size, 0, none⟩) 1 1]).run P (w.alloc (.cells cs e)) = .ok v' w' ∧ isSl' v' ∧ w'.ownsRow lo e sz v' (n + 1) (xs ++ cs.toList) ∧ Below lo w w' ∧
      (∀ b, b < w.heap.size → v.ownBlock ≠ some b → w'.heap[b]? = w.heap[b]?) ∧ (v'.ownBlock = v.ownBlock ∨ v'.ownBlock = some (w.heap.size + 1)) := by
  obtain ⟨ti, hti, hz0, hz1, hz2⟩ := info_parts hi
  obtain ⟨v2, w2, hr2, ho2, hg2, _, hid2⟩ := run_append_own_at (P := P) (w.alloc (.cells cs e)) lo ts ty e ti z sz bytes hu hti hz0 hz1 hz2 hz h0 v n xs (hown.alloc _) ⟨w.heap.size, 0, none⟩ 1 1 cs.toList (by rw [hl, Nat.one_mul])
    (World.news_of_block (cs := cs) (t := e) (fr := (0, 0)) (new_block w _)) h1 (by unfold maxLen; omega) (by
      have : (n + 1) * bytes ≤ 100000001 * 1000 := Nat.mul_le_mul (by omega) hb
      omega) (by simp; omega)
  have hsz : w.heap.size ≤ w2.heap.size := by have := hg2.size; simp at this; omega
  have hblk : ∀ b, b < w.heap.size → v.ownBlock ≠ some b → w2.heap[b]? = w.heap[b]? := fun b hb hne => (hg2.block b (by simp; omega) (fun e => hne e.symm)).trans (Below.heap_alloc w _ b hb)
  have hlo2 : ∀ b, v.ownBlock = some b → lo ≤ b := fun b hb => (hown.lt b hb).1
  refine ⟨v2, w2, hr2, ?_, ho2, ⟨hg2.os, hg2.tape, hg2.output, hsz, fun b hb => hblk b (by omega) (fun e => by have := hlo2 b e; omega)⟩, hblk, by simpa using hid2⟩
  rcases ho2.2 with ⟨e, _⟩ | ⟨g, cap, cur, e, _⟩
  · exact ⟨_, _, _, e⟩
  · exact ⟨_, _, _, e⟩
theorem row_same {w w' : World} {base : Nat} {e : TypeId} {size : Nat} {v : Value} {n : Nat} {xs : List Value} (h : w.ownsRow base e size v n xs) (hw : ∀ k, base ≤ k → k < w.heap.size → w'.heap[k]? = w.heap[k]?) : w'.ownsRow base e size v n xs := by
  refine ⟨h.1, ?_⟩
  rcases h.2 with hn | ⟨g, cap, cur, rfl, hb, hgg, rest⟩
  · exact .inl hn
  · exact .inr ⟨g, cap, cur, rfl, hb, by rw [hw g hb (Array.getElem?_eq_some_iff.1 hgg).1]; exact hgg, rest⟩
end Go.Proofs.YtmbbmibkjnlkkaaDoor
