/- The contract of spec.EventsText: line after line. -/
import Derived.Test.YtleajpkdikcfpalDoorStx
import Derived.Lib.AppendStr
import Derived.OwnWalk
namespace Go.Proofs.YtleajpkdikcfpalDoor
open Go.ChangeShapes Go.WideShapes Go.ChangeAt Go.RowKit Go.Deep
def natsB (s : ByteArray) : List Nat := s.data.toList.map (·.toNat)
/-- The bytes of the lines of a list of events. -/
def evsN : List Ev → List Nat
  | [] => []
  | e :: t => natsB (evText e) ++ [10] ++ evsN t
def evsText (es : List Ev) : ByteArray := strN (evsN es)
theorem evsN_app : ∀ a b : List Ev, evsN (a ++ b) = evsN a ++ evsN b
  | [], b => rfl
  | e :: t, b => by
    show natsB (evText e) ++ [10] ++ evsN (t ++ b) = natsB (evText e) ++ [10] ++ evsN t ++ evsN b
    rw [evsN_app t b]
    simp only [List.append_assoc]
theorem evsN_take {es : List Ev} {k : Nat} {e : Ev} (h : es[k]? = some e) : evsN (es.take (k + 1)) = evsN (es.take k) ++ natsB (evText e) ++ [10] := by
  rw [List.take_add_one, h, evsN_app]
  show evsN (es.take k) ++ (natsB (evText e) ++ [10] ++ []) = _
  rw [List.append_nil, List.append_assoc]
theorem natsB_len (s : ByteArray) : (natsB s).length = s.size := by unfold natsB; rw [List.length_map, Array.length_toList]; rfl
theorem OwB.puts {lo : Nat} {l : List Nat} {v : Value} {w : World} (h : OwB lo l v w) (hlo : lo ≤ w.heap.size) (hl : l.length ≤ 100000000) (s : ByteArray) (hs : s.size ≤ 100000000) (ty : TypeId) :
    ∃ v' w', (Builtin.append_ #[32, 9] ty #[v, .string s]).run Tryd.prog w = .ok v' w' ∧ isSl' v' ∧ OwB lo (l ++ natsB s) v' w' ∧ Below lo w w' ∧ (∀ b, b < w.heap.size → v.ownBlock ≠ some b → w'.heap[b]? = w.heap[b]?) := by
  obtain ⟨ti, hti, hz0, hz1, hz2⟩ := info_parts infoB
  obtain ⟨v2, w2, hr2, ho2, hg2, _⟩ := Lib.run_append_own_string (P := Tryd.prog) w lo 32 9 ty 5 ti Tryd.underlying32 Tryd.underlying9 hti hz0 hz1 hz2 v l.length (u8s l) h s (by unfold maxLen; omega) (by omega) hlo
  have hlo2 : ∀ b, v.ownBlock = some b → lo ≤ b := fun b hb => (World.ownsRow.lt h b hb).1
  refine ⟨v2, w2, hr2, ?_, ?_, ⟨hg2.os, hg2.tape, hg2.output, hg2.size, fun b hb => hg2.block b (by omega) (fun e => by have := hlo2 b e.symm; omega)⟩, fun b hb hne => hg2.block b hb (fun e => hne e.symm)⟩
  · rcases ho2.2 with ⟨e, _⟩ | ⟨g, cap, cur, e, _⟩
    · exact ⟨_, _, _, e⟩
    · exact ⟨_, _, _, e⟩
  · show w2.ownsRow lo 5 1 v2 (l ++ natsB s).length (u8s (l ++ natsB s))
    rw [List.length_append, natsB_len, show u8s (l ++ natsB s) = u8s l ++ u8s (natsB s) from List.map_append, show u8s (natsB s) = Lib.strCells s from by unfold u8s natsB Lib.strCells; rw [List.map_map]; rfl]
    exact ho2
theorem append_run2 {P : Program} {w : World} {ops : Array Oper} {rest : List Oper} {o : Oper} {a : Act} {Q : Exit → Act → World → Prop}
    (hg : o.guard = none) (s x : Operand) (t tx : TypeId) (hop : o.op = Op.call { callee := Callee.builtin Builtin.append, args := #[s, x], argTypes := #[t, tx] })
    (v u : Value) (hs : a.eval s = v) (hx : a.eval x = u) (r : Value) (w' : World) (hrun : (Builtin.append_ #[t, tx] o.type #[v, u]).run P w = .ok r w')
    (hK : wpList P ops Q rest (a.put o.dst r) w') : wpList P ops Q (o :: rest) a w := by
  refine wpList_plain hg fun K hK' => ?_
  unfold Oper.wp execOp
  simp only [hop, resolve, invoke, builtin, Sem.run_bind, Sem.run_pure, Result.andThen_ok, List.map_toArray, List.map_cons, List.map_nil, hs, hx, hrun]
  exact hK' _ _ hK
theorem propsB_size (e : Ev) : (propsB e).size ≤ e.anchor.size + e.tag.size + 5 := by
  have h1 := prA_size e.anchor
  have h2 := prT_size (prA e.anchor) e.tag
  show (prT (prA e.anchor) e.tag).size ≤ _
  omega
theorem extract1_size (a : ByteArray) (k : Nat) : (a.extract k (k + 1)).size ≤ 1 := by rw [ByteArray.size_extract]; omega
theorem evText_size (e : Ev) : (evText e).size ≤ 2 * e.tot + 60 := by
  have h1 := propsB_size e
  have h2 := escS_size e.text
  have h3 := nt_size e.code
  have h4 := nt_size e.at_
  have h5 := extract1_size ⟨#[32, 58, 39, 34, 124, 62]⟩ e.style.toNat
  unfold evText Ev.tot
  split
  · unfold evLine
    repeat' split
    all_goals try simp only [ByteArray.size_append]
    all_goals first | (show 4 + _ + 1 + _ + _ ≤ _; omega) | (show 7 + _ + 1 + _ ≤ _; omega) | (show 7 + _ ≤ _; omega) | (show 4 + _ ≤ _; omega) | (show 6 + _ ≤ _; omega) | (show 8 ≤ _; omega) | (show 4 ≤ _; omega)
  · show 0 ≤ _; omega
theorem evsN_len : ∀ es : List Ev, (evsN es).length ≤ 2 * totE es + 61 * es.length
  | [] => by simp [evsN]
  | e :: t => by
    have h1 := evsN_len t
    have h2 := evText_size e
    show (natsB (evText e) ++ [10] ++ evsN t).length ≤ 2 * (e.tot + totE t) + 61 * (t.length + 1)
    simp only [List.length_append, natsB_len, List.length_cons, List.length_nil]
    omega
theorem totE_le (es : List Ev) (k : Nat) : totE (es.take k) ≤ totE es := by
  have := totE_app (es.take k) (es.drop k)
  rw [List.take_append_drop] at this
  omega
set_option maxHeartbeats 8000000 in
theorem spec_eventsText (w : World) (v : Value) (es : List Ev) (hV : SlE w v es) (hl : totE es + es.length ≤ 1048576) (t : ByteArray) (ht : evsText es = t) :
    Calls Tryd.prog 5 #[v] w fun r w' => r = .returned (.string t) ∧ Below w.heap.size w w' := by
  obtain ⟨a, c, rfl⟩ := hV.sl
  have HV : Hid (SlE w (.slice a es.length c) es) := hV
  have HT : Hid (totE es + es.length ≤ 1048576) := hl
  have HR : Hid (strN (evsN es) = t) := ht
  have hlen : es.length ≤ 1048576 := by omega
  clear hV hl ht
  go_enter Tryd.func5, Tryd.ntmps5
  go_wp2_with fail
  have HO0 : Hid (OwB w.heap.size (evsN (es.take 0)) (.slice (some ⟨w.heap.size, 0, none⟩) 0 0) (w.alloc (.cells #[] 5))) := World.ownsRow_made w #[] 0 (Nat.le_refl _) (Nat.zero_le _) rfl
  have HA0 : Hid (Below w.heap.size w (w.alloc (.cells #[] 5))) := (Below.refl _ w).alloc (Nat.le_refl _) _
  go_loopw [3, 9] (fun ov kv wr => ∃ k : Nat, kv = .int .i64 (k : Int) ∧ k ≤ es.length ∧ Hid (OwB w.heap.size (evsN (es.take k)) ov wr) ∧ Hid (Below w.heap.size w wr)) (fun _ kv _ => es.length - (intOf kv).toNat)
  case atStart => exact ⟨0, rfl, Nat.zero_le _, HO0, HA0⟩
  case round =>
    clear HO0 HA0
    obtain ⟨k, rfl, hk, HO, HBl⟩ := hrel
    obtain ⟨oa, oc, rfl⟩ := HO.out.sl
    generalize hn0 : (evsN (es.take k)).length = n0 at *
    by_cases hlt : k < es.length
    · obtain ⟨e, hx⟩ : ∃ e, es[k]? = some e := ⟨_, List.getElem?_eq_getElem hlt⟩
      obtain ⟨bb, off, rfl, _, ⟨c0, c1, c2, c3, c4, c5, c6, c7⟩⟩ := HV.out.at HBl.out hx
      have htm := totE_mem (List.mem_of_getElem? hx)
      have HST : Hid (evsN (es.take (k + 1)) = evsN (es.take k) ++ natsB (evText e) ++ [10]) := evsN_take hx
      have HLN : Hid ((evsN (es.take k)).length ≤ 70000000) := by
        have h1 := evsN_len (es.take k)
        have h2 := totE_le es k
        have h3 := HT.out
        have h4 : (es.take k).length ≤ es.length := by rw [List.length_take]; omega
        show (evsN (es.take k)).length ≤ 70000000
        omega
      have HXZ : Hid ((evText e).size ≤ 3000000) := by
        have h1 := evText_size e
        have h3 := HT.out
        show (evText e).size ≤ 3000000
        omega
      have cT : Hid (∀ w, Calls Tryd.prog 10 #[.agg e.row] w fun r w' => r = .returned (.string (evText e)) ∧ Below w.heap.size w w') := fun w => by
        have h3 := HT.out
        unfold Ev.tot at htm
        exact spec_eventText e w ⟨by omega, by omega, by omega⟩
      generalize evText e = X at *
      have hlt' : (k : Int) < (es.length : Int) := by omega
      obtain ⟨kind, style, flag, text, anchor, tag, at_, code⟩ := e
      unfold Ev.row at cT
      simp only at c0 c1 c2 c3 c4 c5 c6 c7
      have HAL : Hid (Below wr.heap.size wr (wr.alloc (.cells #[.int .i64 kind, .int .i64 style, .bool flag, .string text, .string anchor, .string tag, .int .i64 at_, .int .i64 code] 33))) := (Below.refl _ wr).alloc (Nat.le_refl _) _
      clear hx htm hn0
      go_wp2_with fail
      refine (cT.out _).mono ?_
      rintro r w1 ⟨rfl, hb1⟩
      clear cT c0 c1 c2 c3 c4 c5 c6 c7
      have hB1 : Below wr.heap.size wr w1 := HAL.out.trans (hb1.mono HAL.out.size)
      have HO1 := HO.out.stays hB1
      have HBl1 : Hid (Below w.heap.size w w1) := HBl.out.trans (hB1.mono HBl.out.size)
      obtain ⟨v2, w2, hrun2, ⟨p0, p1, p2, rfl⟩, hO2, hB2, _⟩ := HO1.puts HBl1.out.size (by have := HLN.out; omega) X (by have := HXZ.out; omega) 32
      have HBl2 : Hid (Below w.heap.size w w2) := HBl1.out.trans hB2
      obtain ⟨v3, w3, hrun3, ⟨u0, u1, u2, rfl⟩, hO3, hB3, _⟩ := hO2.put HBl2.out.size (by have := HLN.out; have := HXZ.out; rw [List.length_append, natsB_len]; omega) [10] (by decide) 32
      have hrun3' : (Builtin.append_ #[32, 32] 32 #[.slice p0 p1 p2, .slice (some ⟨w2.heap.size, 0, none⟩) 1 1]).run Tryd.prog (w2.alloc (.cells #[.int .u8 10] 5)) = .ok (.slice u0 u1 u2) w3 := hrun3
      have HO3 : Hid (OwB w.heap.size (evsN (es.take (k + 1))) (.slice u0 u1 u2) w3) := by rw [HST.out]; exact hO3
      have HBl3 : Hid (Below w.heap.size w w3) := HBl2.out.trans hB3
      clear hb1 hB1 HO1 hO2 hB2 hO3 hB3 hrun3 HAL HO HBl HBl1 HBl2
      go_wp2_with (first | (at_builtin; refine append_run2 rfl _ _ 32 9 rfl (.slice oa n0 oc) (.string X) rfl rfl (.slice p0 p1 p2) w2 hrun2 ?_) | (at_builtin; refine append_run rfl _ _ 32 rfl (.slice p0 p1 p2) (.slice (some ⟨w2.heap.size, 0, none⟩) 1 1) rfl rfl (.slice u0 u1 u2) w3 hrun3' ?_))
      go_roundw
      case rel => exact ⟨k + 1, by go_num, hlt, HO3, HBl3⟩
      case measure => simp [intOf]; omega
    · have hlt' : ¬ (k : Int) < (es.length : Int) := by omega
      have hcv := HO.out.conv
      rw [show es.take k = es from List.take_of_length_le (by omega), HR.out] at hcv
      clear HO
      go_wp2_with fail
      go_ret
      exact ⟨rfl, HBl.out⟩
end Go.Proofs.YtleajpkdikcfpalDoor
