/- The contract of impl.stepsOf. -/
import Derived.Test.YtmbbmibkjnlkkaaDoorJld
import Derived.Test.YtmbbmibkjnlkkaaDoorJsg
import Derived.Test.YtmbbmibkjnlkkaaDoorPsh
import Derived.Test.YtmbbmibkjnlkkaaDoorRwi
namespace Go.Proofs.YtmbbmibkjnlkkaaDoor
open Go.ChangeShapes Go.WideShapes Go.ChangeAt Go.RowKit
theorem infoStep : (Tryd.prog.info? 52).map (fun i => (i.zero, i.size, i.bytes)) = some (some .nilIface, 1, 16) := by kernel_rfl
theorem stL_row {w : World} {lo : Nat} {v : Value} {es : List Sg} (h : w.ownsRow lo 52 1 v es.length (es.map stepV)) : StL w v es := by
  by_cases hz : es = []
  · subst hz
    left
    rcases h.2 with ⟨e, _⟩ | ⟨g, cap, cur, e, _⟩
    · exact ⟨rfl, _, _, e⟩
    · exact ⟨rfl, _, _, e⟩
  · right
    have hpos : 0 < es.length := List.length_pos_iff.2 hz
    rcases h.2 with ⟨_, e⟩ | ⟨g, cap, cur, rfl, hb, hg, hn, hm, hsz, ht⟩
    · omega
    · refine ⟨hz, g, 0, cap, rfl, (Array.getElem?_eq_some_iff.1 hg).1, hn, fun i p hi => ?_⟩
      have hx : (es.map stepV)[i]? = some (stepV p) := by rw [List.getElem?_map, hi]; rfl
      have a1 : (⟨g, 0, none⟩ : Addr).add i = ⟨g, 0 + i, none⟩ := by unfold Addr.add; split <;> simp_all <;> omega
      have h1 := h.cells (g := g) rfl i _ hx
      rw [a1] at h1
      exact h1
theorem stepV_one (s : Sg) : (stepV s).oneCell' = true := by
  obtain ⟨T, v, e⟩ := stepV_iface s
  rw [e]; rfl
/-- What stepsOf answers. -/
def StsA (es : List Sg) (w : World) (e : Ending) (w' : World) : Prop :=
  ∃ v, e = .returned (.tuple #[v, .bool (es.all segOk)]) ∧ (es.all segOk = true → StL w' v es) ∧ Below w.heap.size w w'
theorem all_okS {es : List Sg} (h : es.all segOk = true) : okS es := fun e he => List.all_eq_true.1 h e he
theorem all_take {es : List Sg} {k : Nat} {s : Sg} (h : (es.take k).all segOk = true) (hs : es[k]? = some s) (ok : segOk s = true) : (es.take (k + 1)).all segOk = true := by
  rw [List.take_add_one, hs, List.all_append, h]
  simp [ok]
theorem all_bad {es : List Sg} {k : Nat} {s : Sg} (hs : es[k]? = some s) (ok : segOk s = false) : es.all segOk = false := by
  rw [List.all_eq_false]
  exact ⟨s, List.mem_of_getElem? hs, by simp [ok]⟩
set_option maxRecDepth 100000 in
set_option maxHeartbeats 8000000 in
theorem stepsOf_any (w : World) (v : Value) (es : List Sg) (hV : SgL w v es) (hl : es.length ≤ 1048576) (hT : TabV w) :
    Calls Tryd.prog 28 #[v] w fun e w' => StsA es w e w' := by
  obtain ⟨a, c, rfl⟩ := hV.sl
  have HV : Hid (SgL w (.slice a es.length c) es ∧ es.length ≤ 1048576) := ⟨hV, hl⟩
  have HT : Hid (TabV w) := hT
  have pI : (es.length : Int) ≤ 1048576 := by omega
  have HO0 : Hid (w.ownsRow w.heap.size 52 1 (.slice none 0 0) 0 []) := World.ownsRow_nil _ _ _ _
  clear hV hl hT
  go_enter Tryd.func28, Tryd.ntmps28
  go_wp2_with fail
  go_loopw [4, 11] (fun ov kv wr => ∃ (k : Nat) (oa : Option Addr) (on oc : Nat), ov = .slice oa on oc ∧ kv = .int .i64 (k : Int) ∧ k ≤ es.length ∧ Hid ((es.take k).all segOk = true ∧ wr.ownsRow w.heap.size 52 1 (.slice oa on oc) k ((es.take k).map stepV) ∧ Below w.heap.size w wr)) (fun _ kv _ => es.length - (intOf kv).toNat)
  case atStart => exact ⟨0, none, 0, 0, rfl, rfl, Nat.zero_le _, rfl, HO0.out, Below.refl _ _⟩
  case round =>
    obtain ⟨k, oa, on, oc, rfl, rfl, hk, HR⟩ := hrel
    clear HO0
    by_cases hlt : k < es.length
    case neg =>
      obtain rfl : k = es.length := by omega
      have hlt' : ¬ (es.length : Int) < (es.length : Int) := by omega
      have HO : Hid (StsA es w (.returned (.tuple #[.slice oa on oc, .bool true])) wr) := by
        have h := HR.out
        rw [List.take_length] at h
        exact ⟨_, by rw [h.1], fun _ => stL_row h.2.1, h.2.2⟩
      clear HR hlt hk
      go_wp2_with fail
      go_ret2
      exact HO.out
    have hlt' : (k : Int) < (es.length : Int) := by omega
    obtain ⟨s, hs⟩ : ∃ s, es[k]? = some s := ⟨_, List.getElem?_eq_getElem hlt⟩
    obtain ⟨b, off, e2, _, ⟨c0, c1, c2⟩⟩ := HV.out.1.at HR.out.2.2 hs
    subst e2
    obtain ⟨W, hW⟩ : ∃ W, wr.alloc (.cells #[.int .i64 s.kind, .int .i64 s.n, .string s.text] 29) = W := ⟨_, rfl⟩
    have HW : Hid (wr.alloc (.cells #[.int .i64 s.kind, .int .i64 s.n, .string s.text] 29) = W) := hW
    have hbW : Below wr.heap.size wr W := by rw [← hW]; exact (Below.refl _ wr).alloc (Nat.le_refl _) _
    have HBW : Hid (Below w.heap.size w W) := HR.out.2.2.trans (hbW.mono HR.out.2.2.size)
    have hn : W.heap[wr.heap.size]? = some (.cells #[.int .i64 s.kind, .int .i64 s.n, .string s.text] 29 (0, 0)) := by rw [← hW]; exact heap_alloc_new wr _
    obtain ⟨q0, q1, q2⟩ := row_atP hn
    have HOW : Hid (W.ownsRow w.heap.size 52 1 (.slice oa on oc) k ((es.take k).map stepV)) := by
      show World.ownsRow _ _ _ _ _ _ _
      rw [← hW]; exact HR.out.2.1.alloc _
    have cS := stepOf_any s W (HT.out.lasts HBW.out)
    unfold Sg.row at cS
    obtain ⟨ok, hok⟩ : ∃ ok, segOk s = ok := ⟨_, rfl⟩
    rw [hok] at cS
    have HLT : Hid (k < es.length) := hlt
    have HA : Hid ((es.take k).all segOk = true) := HR.out.1
    have HS : Hid (es[k]? = some s ∧ segOk s = ok) := ⟨hs, hok⟩
    clear hs hW hbW hn hlt hk hok HR
    generalize hK : s.kind = sk at *
    generalize hN : s.n = sn at *
    generalize hX : s.text = st at *
    clear hK hN hX
    go_wp2_with fail
    rw [HW.out]
    clear c0 c1 c2
    go_wp2_with fail
    refine cS.mono ?_
    rintro e w5 ⟨⟨v5, rfl, hv5⟩, hb5⟩
    have HB5 : Hid (Below w.heap.size w w5) := HBW.out.trans (hb5.mono HBW.out.size)
    have HV5 : Hid (ok = true → v5 = stepV s) := hv5
    have hO5 : w5.ownsRow w.heap.size 52 1 (.slice oa on oc) k ((es.take k).map stepV) := row_stays HOW.out hb5
    have HO5 : Hid (w5.ownsRow w.heap.size 52 1 (.slice oa on oc) k ((es.take k).map stepV)) := hO5
    clear hO5 hb5 hv5 q0 q1 q2 cS
    cases hk : ok with
    | false =>
      have HO : Hid (StsA es w (.returned (.tuple #[.slice none 0 0, .bool false])) w5) := by
        have h := all_bad HS.out.1 (HS.out.2.trans hk)
        exact ⟨_, by rw [h], fun e => (by rw [h] at e; cases e), HB5.out⟩
      clear hk HS HV5
      go_wp2_with fail
      go_ret2
      exact HO.out
    | true =>
      have hv : v5 = stepV s := HV5.out hk
      subst hv
      obtain ⟨v6, w6, hrun6, hsl6, hown6, hbel6, _⟩ := push_own (P := Tryd.prog) Tryd.underlying47 infoStep rfl (by decide) w5 w.heap.size _ _ _ HO5.out #[stepV s] rfl (by intro u hu; simp at hu; subst hu; exact stepV_one s) (by have := HLT.out; omega) (by omega) HB5.out.size 47
      obtain ⟨a6, n6, c6, rfl⟩ := hsl6
      have HO6 : Hid ((es.take (k + 1)).all segOk = true ∧ w6.ownsRow w.heap.size 52 1 (.slice a6 n6 c6) (k + 1) ((es.take (k + 1)).map stepV) ∧ Below w.heap.size w w6) := by
        refine ⟨all_take HA.out HS.out.1 (HS.out.2.trans hk), ?_, HB5.out.trans hbel6⟩
        rw [List.take_add_one, HS.out.1, List.map_append]
        exact hown6
      clear hown6 hbel6 hk HS HV5 HO5 HOW
      obtain ⟨T, x, hTx⟩ := stepV_iface s
      rw [hTx] at hrun6 ⊢
      clear hTx
      go_wp2_with (at_builtin; refine append_run rfl _ _ 47 rfl _ _ rfl rfl _ w6 hrun6 ?_)
      go_roundw
      case rel => exact ⟨k + 1, _, _, _, rfl, by go_num, HLT.out, HO6⟩
      case measure => have := HLT.out; simp [intOf]; omega
end Go.Proofs.YtmbbmibkjnlkkaaDoor
