/- The contract of spec.EventsText: line after line. -/
import Derived.Test.YtleajpkdikcfpakDoorStx
import Derived.Lib.AppendStr
import Derived.OwnWalk
namespace Go.Proofs.YtleajpkdikcfpakDoor
open Go.ChangeShapes Go.WideShapes Go.ChangeAt Go.RowKit Go.Deep
def natsB (s : ByteArray) : List Nat := s.data.toList.map (·.toNat)
/-- The bytes of the lines of a list of events. -/
def evsN : List Ev → List Nat
  | [] => []
  | e :: t => natsB (evText e) ++ [10] ++ evsN t
def evsText (es : List Ev) : ByteArray := strN (evsN es)
theorem evsN_app : ∀ a b : List Ev, evsN (a ++ b) = evsN a ++ evsN b
  | [], b => rfl
  | e :: t, b => by
    show natsB (evText e) ++ [10] ++ evsN (t ++ b) = natsB (evText e) ++ [10] ++ evsN t ++ evsN b
    rw [evsN_app t b]
    simp only [List.append_assoc]
theorem evsN_take {es : List Ev} {k : Nat} {e : Ev} (h : es[k]? = some e) : evsN (es.take (k + 1)) = evsN (es.take k) ++ natsB (evText e) ++ [10] := by
  rw [List.take_add_one, h, evsN_app]
  show evsN (es.take k) ++ (natsB (evText e) ++ [10] ++ []) = _
  rw [List.append_nil, List.append_assoc]
theorem natsB_len (s : ByteArray) : (natsB s).length = s.size := by unfold natsB; rw [List.length_map, Array.length_toList]; rfl
theorem OwB.puts {lo : Nat} {l : List Nat} {v : Value} {w : World} (h : OwB lo l v w) (hlo : lo ≤ w.heap.size) (hl : l.length ≤ 100000000) (s : ByteArray) (hs : s.size ≤ 100000000) (ty : TypeId) :
    ∃ v' w', (Builtin.append_ #[35, 9] ty #[v, .string s]).run Tryd.prog w = .ok v' w' ∧ isSl' v' ∧ OwB lo (l ++ natsB s) v' w' ∧ Below lo w w' ∧ (∀ b, b < w.heap.size → v.ownBlock ≠ some b → w'.heap[b]? = w.heap[b]?) := by
  obtain ⟨ti, hti, hz0, hz1, hz2⟩ := info_parts infoB
  obtain ⟨v2, w2, hr2, ho2, hg2, _⟩ := Lib.run_append_own_string (P := Tryd.prog) w lo 35 9 ty 5 ti Tryd.underlying35 Tryd.underlying9 hti hz0 hz1 hz2 v l.length (u8s l) h s (by unfold maxLen; omega) (by omega) hlo
  have hlo2 : ∀ b, v.ownBlock = some b → lo ≤ b := fun b hb => (World.ownsRow.lt h b hb).1
  refine ⟨v2, w2, hr2, ?_, ?_, ⟨hg2.os, hg2.tape, hg2.output, hg2.size, fun b hb => hg2.block b (by omega) (fun e => by have := hlo2 b e.symm; omega)⟩, fun b hb hne => hg2.block b hb (fun e => hne e.symm)⟩
  · rcases ho2.2 with ⟨e, _⟩ | ⟨g, cap, cur, e, _⟩
    · exact ⟨_, _, _, e⟩
    · exact ⟨_, _, _, e⟩
  · show w2.ownsRow lo 5 1 v2 (l ++ natsB s).length (u8s (l ++ natsB s))
    rw [List.length_append, natsB_len, show u8s (l ++ natsB s) = u8s l ++ u8s (natsB s) from List.map_append, show u8s (natsB s) = Lib.strCells s from by unfold u8s natsB Lib.strCells; rw [List.map_map]; rfl]
    exact ho2
theorem append_run2 {P : Program} {w : World} {ops : Array Oper} {rest : List Oper} {o : Oper} {a : Act} {Q : Exit → Act → World → Prop}
    (hg : o.guard = none) (s x : Operand) (t tx : TypeId) (hop : o.op = Op.call { callee := Callee.builtin Builtin.append, args := #[s, x], argTypes := #[t, tx] })
    (v u : Value) (hs : a.eval s = v) (hx : a.eval x = u) (r : Value) (w' : World) (hrun : (Builtin.append_ #[t, tx] o.type #[v, u]).run P w = .ok r w')
    (hK : wpList P ops Q rest (a.put o.dst r) w') : wpList P ops Q (o :: rest) a w := by
  refine wpList_plain hg fun K hK' => ?_
  unfold Oper.wp execOp
  simp only [hop, resolve, invoke, builtin, Sem.run_bind, Sem.run_pure, Result.andThen_ok, List.map_toArray, List.map_cons, List.map_nil, hs, hx, hrun]
  exact hK' _ _ hK
theorem propsB_size (e : Ev) : (propsB e).size ≤ e.anchor.size + e.tag.size + 5 := by
  have h1 := prA_size e.anchor
  have h2 := prT_size (prA e.anchor) e.tag
  show (prT (prA e.anchor) e.tag).size ≤ _
  omega
theorem extract1_size (a : ByteArray) (k : Nat) : (a.extract k (k + 1)).size ≤ 1 := by rw [ByteArray.size_extract]; omega
theorem evText_size (e : Ev) : (evText e).size ≤ 2 * e.tot + 60 := by
  have h1 := propsB_size e
  have h2 := escS_size e.text
  have h3 := nt_size e.code
  have h4 := nt_size e.at_
  have h5 := extract1_size ⟨#[32, 58, 39, 34, 124, 62]⟩ e.style.toNat
  unfold evText Ev.tot
  split
  · unfold evLine
    repeat' split
    all_goals try simp only [ByteArray.size_append]
    all_goals first | (show 4 + _ + 1 + _ + _ ≤ _; omega) | (show 7 + _ + 1 + _ ≤ _; omega) | (show 7 + _ ≤ _; omega) | (show 4 + _ ≤ _; omega) | (show 6 + _ ≤ _; omega) | (show 8 ≤ _; omega) | (show 4 ≤ _; omega)
  · show 0 ≤ _; omega
theorem evsN_len : ∀ es : List Ev, (evsN es).length ≤ 2 * totE es + 61 * es.length
  | [] => by simp [evsN]
  | e :: t => by
    have h1 := evsN_len t
    have h2 := evText_size e
    show (natsB (evText e) ++ [10] ++ evsN t).length ≤ 2 * (e.tot + totE t) + 61 * (t.length + 1)
    simp only [List.length_append, natsB_len, List.length_cons, List.length_nil]
    omega
theorem totE_le (es : List Ev) (k : Nat) : totE (es.take k) ≤ totE es := by
  have := totE_app (es.take k) (es.drop k)
  rw [List.take_append_drop] at this
  omega
end Go.Proofs.YtleajpkdikcfpakDoor
