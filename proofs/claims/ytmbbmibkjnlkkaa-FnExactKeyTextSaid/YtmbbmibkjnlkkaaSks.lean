/- The specification's nodes within events: the nodes of a collection. -/
import Derived.Test.YtmbbmibkjnlkkaaSne
namespace Go.Proofs.Ytmbbmibkjnlkkaa
open Go.ChangeShapes Go.WideShapes Go.ChangeAt Go.RowKit
def intsV (l : List Nat) : List Value := l.map fun (n : Nat) => Value.int .i64 (n : Int)
theorem intsV_snoc (l : List Nat) (k : Nat) : intsV (l ++ [k]) = intsV l ++ [.int .i64 (k : Int)] := by unfold intsV; rw [List.map_append]; rfl
theorem infoI8 : (Try.prog.info? 3).map (fun i => (i.zero, i.size, i.bytes)) = some (some (.int .i64 0), 1, 8) := by kernel_rfl
/-- A list of numbers that is the call's own. -/
def OwnI (w : World) (l : List Nat) (e : Ending) (w' : World) : Prop := ∃ a n c, e = .returned (.slice a n c) ∧ w'.ownsRow w.heap.size 3 1 (.slice a n c) l.length (intsV l) ∧ Below w.heap.size w w'
set_option maxRecDepth 100000 in
set_option maxHeartbeats 8000000 in
theorem kids_any (w : World) (v : Value) (es : List Ev) (hV : SlE w v es) (hl : es.length ≤ 1048576) (i : Nat) (hi : i < es.length) (L : List Nat) (hr : kidN es i = L) :
    Calls Try.prog 37 #[v, .int .i64 (i : Int)] w fun e w' => OwnI w L e w' := by
  obtain ⟨a, c, rfl⟩ := hV.sl
  have HV : Hid (SlE w (.slice a es.length c) es) := hV
  obtain ⟨e0, he0⟩ : ∃ e0, es[i]? = some e0 := ⟨_, List.getElem?_eq_getElem hi⟩
  obtain ⟨b, off, rfl, hbl, _⟩ := hV.at (Below.refl _ w) he0
  have HBL : Hid (b < w.heap.size) := hbl
  obtain ⟨n0, hn0⟩ : ∃ n0, colE e0 = n0 := ⟨_, rfl⟩
  have HR : Hid ((if n0 = false then [] else kidG es (es.length + 1) (i + 1) []) = L) := by show _ = _; rw [← hr]; unfold kidN; rw [he0]; show _ = (if colE e0 = false then [] else kidG es (es.length + 1) (i + 1) []); rw [hn0]
  have cN := fun w' => coll_any e0 w' n0 hn0
  have HA0 : Hid (Below w.heap.size w (w.alloc (.cells #[] 3))) := (Below.refl _ w).alloc (Nat.le_refl _) _
  have HO0 : Hid ((w.alloc (.cells #[] 3)).ownsRow w.heap.size 3 1 (.slice (some ⟨w.heap.size, 0, none⟩) 0 0) ([] : List Nat).length (intsV [])) := World.ownsRow_made w #[] 0 (Nat.le_refl _) (Nat.zero_le _) rfl
  obtain ⟨b2, off2, e2, _, hE⟩ := hV.at HA0.out he0
  injection e2 with e2
  injection e2 with e2 e3 _
  subst e2
  subst e3
  obtain ⟨d0, d1, d2, d3, d4, d5, d6, d7⟩ := hE
  have hi' : (i : Int) < (es.length : Int) := by omega
  have hl' : (es.length : Int) ≤ 1048576 := by omega
  have HI : Hid (i < es.length ∧ es.length ≤ 1048576) := ⟨hi, hl⟩
  clear hV hbl he0 hn0 hr hi
  go_enter Try.func37, Try.ntmps37
  go_wp2_with fail
  refine (cN _).mono ?_
  rintro e9 w1 ⟨rfl, hb1⟩
  have HB1 : Hid (Below w.heap.size w w1) := HA0.out.trans (hb1.mono HA0.out.size)
  have HO1 : Hid (w1.ownsRow w.heap.size 3 1 (.slice (some ⟨w.heap.size, 0, none⟩) 0 0) ([] : List Nat).length (intsV [])) := row_same HO0.out (fun k _ hk => hb1.block k hk)
  clear hb1 cN d0 d1 d2 d3 d4 d5 d6 d7 HO0 HA0
  cases n0 with
  | false =>
    have HE : Hid (([] : List Nat) = L) := HR.out
    go_wp2_with fail
    go_ret
    exact ⟨_, _, _, rfl, by rw [← HE.out]; exact HO1.out, HB1.out⟩
  | true =>
    have HG0 : Hid (kidG es (es.length + 1) (i + 1) [] = L) := HR.out
    clear HR
    go_wp2_with fail
    go_loopw [5, 6] (fun ov kv wr => ∃ (k f : Nat) (acc : List Nat) (oa : Option Addr) (on oc : Nat), ov = .slice oa on oc ∧ kv = .int .i64 (k : Int) ∧ k ≤ es.length ∧ acc.length ≤ k ∧ Hid (es.length < f + k) ∧ Hid (kidG es f k acc = L) ∧ Hid (wr.ownsRow w.heap.size 3 1 (.slice oa on oc) acc.length (intsV acc)) ∧ Hid (Below w.heap.size w wr)) (fun _ kv _ => es.length - (intOf kv).toNat)
    case atStart => exact ⟨i + 1, es.length + 1, [], _, _, _, rfl, by go_num, HI.out.1, Nat.zero_le _, by show es.length < es.length + 1 + (i + 1); omega, HG0, HO1, HB1⟩
    case round =>
      obtain ⟨k, f, acc, oa, on, oc, rfl, rfl, hk, hac, HF, HG, HO, HB⟩ := hrel
      clear HG0 HO1 HB1
      by_cases hlt : k < es.length
      case neg =>
        obtain rfl : k = es.length := by omega
        have hlt' : ¬ (es.length : Int) < (es.length : Int) := by omega
        have HE : Hid (acc = L) := by
          show _ = _
          rw [← HG.out]
          cases f with
          | zero => rfl
          | succ f => rw [kidG, List.getElem?_eq_none (Nat.le_refl _)]
        go_wp2_with fail
        go_ret
        exact ⟨_, _, _, rfl, by rw [← HE.out]; exact HO.out, HB.out⟩
      have hlt' : (k : Int) < (es.length : Int) := by omega
      obtain ⟨e, he⟩ : ∃ e, es[k]? = some e := ⟨_, List.getElem?_eq_getElem hlt⟩
      obtain ⟨f', rfl⟩ : ∃ f', f = f' + 1 := ⟨f - 1, by have := HF.out; omega⟩
      obtain ⟨b3, off3, e2, _, hE⟩ := HV.out.at HB.out he
      injection e2 with e2
      injection e2 with e2 e3 _
      subst e2
      subst e3
      obtain ⟨nb, hnb⟩ : ∃ nb, nodE e = nb := ⟨_, rfl⟩
      obtain ⟨y, hy⟩ : ∃ y, endN es k = y := ⟨_, rfl⟩
      have hg := HG.out
      rw [kidG, he] at hg
      have HG2 : Hid ((if nb = false then acc else if y < 0 then acc ++ [k] else kidG es f' (y.toNat + 1) (acc ++ [k])) = L) := by show _ = _; rw [← hnb, ← hy]; exact hg
      have cD := fun w' => node_any e w' nb hnb
      have cE : Hid (∀ w', Below w.heap.size w w' → Calls Try.prog 36 #[.slice (some ⟨b, off, none⟩) es.length c, .int .i64 (k : Int)] w' fun e w'' => e = .returned (.int .i64 y) ∧ Below w'.heap.size w' w'') := fun w' hb => end_any w' _ es (HV.out.stays hb) HI.out.2 k hlt y hy
      have hyd : y = -1 ∨ ((k : Int) ≤ y ∧ y < (es.length : Int)) := by have h := endN_le es k hk; rw [hy] at h; exact h
      obtain ⟨d0, d1, d2, d3, d4, d5, d6, d7⟩ := hE
      clear hg he hnb hy
      go_wp2_with fail
      refine (cD _).mono ?_
      rintro e9 w2 ⟨rfl, hb2⟩
      have HB2 : Hid (Below w.heap.size w w2) := HB.out.trans (hb2.mono HB.out.size)
      have HO2 : Hid (w2.ownsRow w.heap.size 3 1 (.slice oa on oc) acc.length (intsV acc)) := row_same HO.out (fun k _ hk => hb2.block k hk)
      clear hb2 cD d0 d1 d2 d3 d4 d5 d6 d7 HO HB
      cases nb with
      | false =>
        have HE : Hid (acc = L) := HG2.out
        clear hyd
        go_wp2_with fail
        go_ret
        exact ⟨_, _, _, rfl, by rw [← HE.out]; exact HO2.out, HB2.out⟩
      | true =>
        have HG3 : Hid ((if y < 0 then acc ++ [k] else kidG es f' (y.toNat + 1) (acc ++ [k])) = L) := HG2.out
        obtain ⟨v5, w5, hrun5, hsl5, hown5, hbel5, _⟩ := push_own (P := Try.prog) Try.underlying55 infoI8 rfl (by decide) w2 w.heap.size _ _ _ HO2.out #[.int .i64 (k : Int)] rfl (by intro u hu; simp at hu; subst hu; rfl) (by have := HI.out.2; omega) (by omega) HB2.out.size 55
        obtain ⟨a5, n5, c5, rfl⟩ := hsl5
        have HO5 : Hid (w5.ownsRow w.heap.size 3 1 (.slice a5 n5 c5) (acc ++ [k]).length (intsV (acc ++ [k]))) := by
          show World.ownsRow _ _ _ _ _ _ _
          rw [List.length_append, intsV_snoc]
          exact hown5
        have HB5 : Hid (Below w.heap.size w w5) := HB2.out.trans hbel5
        have HYD : Hid (y = -1 ∨ ((k : Int) ≤ y ∧ y < (es.length : Int))) := hyd
        clear hown5 hbel5 HO2 HB2 hyd
        go_wp2_with (at_builtin; refine append_run rfl _ _ 55 rfl _ _ rfl rfl _ w5 hrun5 ?_)
        refine (cE.out w5 HB5.out).mono ?_
        rintro e9 w6 ⟨rfl, hb6⟩
        have HB6 : Hid (Below w.heap.size w w6) := HB5.out.trans (hb6.mono HB5.out.size)
        have HO6 : Hid (w6.ownsRow w.heap.size 3 1 (.slice a5 n5 c5) (acc ++ [k]).length (intsV (acc ++ [k]))) := row_same HO5.out (fun k _ hk => hb6.block k hk)
        clear hb6 hrun5 HO5 HB5
        by_cases hy0 : y < 0
        · have HE : Hid (acc ++ [k] = L) := by show _ = _; rw [← HG3.out, if_pos hy0]
          go_wp2_with fail
          go_ret
          exact ⟨_, _, _, rfl, by rw [← HE.out]; exact HO6.out, HB6.out⟩
        · have hyk : (k : Int) ≤ y := by rcases HYD.out with h | h <;> omega
          have hyl : y < (es.length : Int) := by rcases HYD.out with h | h <;> omega
          obtain ⟨z, hz⟩ : ∃ z : Nat, y = (z : Int) := ⟨y.toNat, by omega⟩
          subst hz
          have HE : Hid (kidG es f' (z + 1) (acc ++ [k]) = L) := by
            show _ = _
            rw [← HG3.out, if_neg hy0]
            rfl
          have HFF : Hid (es.length < f' + (z + 1)) := by show _ < _; have := HF.out; omega
          go_wp2_with fail
          go_roundw
          case rel => exact ⟨z + 1, f', acc ++ [k], _, _, _, rfl, by go_num, by omega, by rw [List.length_append]; show acc.length + 1 ≤ z + 1; omega, HFF, HE, HO6, HB6⟩
          case measure => simp [intOf]; omega
end Go.Proofs.Ytmbbmibkjnlkkaa
