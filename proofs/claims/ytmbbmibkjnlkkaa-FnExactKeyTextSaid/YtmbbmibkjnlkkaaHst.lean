/- The specification's l17Key and KeyText. -/
import Derived.Test.YtmbbmibkjnlkkaaSdf
namespace Go.Proofs.Ytmbbmibkjnlkkaa
open Go.ChangeShapes Go.WideShapes Go.ChangeAt Go.RowKit
theorem defG_lt (l : List Ev) (i : Nat) (x : ByteArray) : ∀ k : Nat, defG l i x k < (k : Int) ∧ -1 ≤ defG l i x k
  | 0 => ⟨by show (-1 : Int) < 0; omega, by show (-1 : Int) ≤ -1; omega⟩
  | k + 1 => by
    have ih := defG_lt l i x k
    rw [defG]
    cases l[k]? with
    | none => exact ⟨by show (-1 : Int) < _; omega, by show (-1 : Int) ≤ -1; omega⟩
    | some e =>
      show (if e.kind = 2 then (-1 : Int) else if namE e x = true then (if endN l k < 0 ∨ (i : Int) < endN l k then -1 else (k : Int)) else defG l i x k) < _ ∧ -1 ≤ (if e.kind = 2 then (-1 : Int) else if namE e x = true then (if endN l k < 0 ∨ (i : Int) < endN l k then -1 else (k : Int)) else defG l i x k)
      split
      · exact ⟨by omega, by omega⟩
      · split
        · split
          · exact ⟨by omega, by omega⟩
          · exact ⟨by omega, by omega⟩
        · exact ⟨by omega, by omega⟩
def textN (l : List Ev) (i : Nat) : ByteArray := match l[i]? with
  | none => ByteArray.empty
  | some e => if e.kind = 5 then e.text else ByteArray.empty
def keyN (l : List Ev) (i : Nat) : ByteArray := match l[i]? with
  | none => ByteArray.empty
  | some e => if e.kind = 6 then (if defN l i < 0 then ByteArray.empty else textN l (defN l i).toNat) else textN l i
theorem ret_tP {a b : ByteArray} (h : a = b) : Ending.returned (.string a) = .returned (.string b) := by rw [h]
set_option maxRecDepth 100000 in
set_option maxHeartbeats 8000000 in
theorem key_any (w : World) (v : Value) (es : List Ev) (hV : SlE w v es) (hl : es.length ≤ 1048576) (i : Nat) (hi : i < es.length) :
    Calls Try.prog 18 #[v, .int .i64 (i : Int)] w fun e w' => e = .returned (.string (keyN es i)) ∧ Below w.heap.size w w' := by
  obtain ⟨a, c, rfl⟩ := hV.sl
  have HV : Hid (SlE w (.slice a es.length c) es) := hV
  obtain ⟨e0, he0⟩ : ∃ e0, es[i]? = some e0 := ⟨_, List.getElem?_eq_getElem hi⟩
  obtain ⟨b, off, rfl, hbl, hE0⟩ := hV.at (Below.refl _ w) he0
  have hi' : (i : Int) < (es.length : Int) := by omega
  have hl' : (es.length : Int) ≤ 1048576 := by omega
  have HK : Hid (keyN es i = if e0.kind = 6 then (if defN es i < 0 then ByteArray.empty else textN es (defN es i).toNat) else textN es i) := by show _ = _; unfold keyN; rw [he0]
  have HT0 : Hid (textN es i = if e0.kind = 5 then e0.text else ByteArray.empty) := by show _ = _; unfold textN; rw [he0]
  obtain ⟨r, hr⟩ : ∃ r, defN es i = r := ⟨_, rfl⟩
  have hrr : r < (i : Int) ∧ -1 ≤ r := by
    rw [← hr]
    unfold defN
    rw [he0]
    exact defG_lt es i e0.text i
  have cD := def_any w _ es hV hl i hi r hr
  rw [hr] at HK
  have HK6 : Hid (e0.kind = 6 → keyN es i = if r < 0 then ByteArray.empty else textN es r.toNat) := fun h => by rw [HK.out, if_pos h]
  have HK7 : Hid (e0.kind ≠ 6 → keyN es i = textN es i) := fun h => by rw [HK.out, if_neg h]
  have HT5 : Hid (e0.kind = 5 → textN es i = e0.text) := fun h => by rw [HT0.out, if_pos h]
  have HT7 : Hid (e0.kind ≠ 5 → textN es i = ByteArray.empty) := fun h => by rw [HT0.out, if_neg h]
  clear HK HT0
  have d0 := hE0.c0
  have d3 := hE0.c3
  clear hV he0 hr hE0
  obtain ⟨kind, style, flag, text, anchor, tag, at_, code⟩ := e0
  by_cases h6 : kind = 6
  · subst h6
    have HK : Hid (keyN es i = if r < 0 then ByteArray.empty else textN es r.toNat) := HK6.out rfl
    clear HK6 HK7 HT5 HT7
    go_enter Try.func18, Try.ntmps18
    go_wp2_with fail
    refine cD.mono ?_
    rintro e w1 ⟨rfl, hb1⟩
    have HB1 : Hid (Below w.heap.size w w1) := hb1
    clear hb1 cD d0 d3
    by_cases h0 : r < 0
    · have HE : Hid (ByteArray.empty = keyN es i) := by show _ = _; rw [HK.out, if_pos h0]
      go_wp2_with fail
      go_ret
      exact ⟨ret_tP HE.out, HB1.out⟩
    · obtain ⟨j, rfl⟩ : ∃ j : Nat, r = (j : Int) := ⟨r.toNat, by omega⟩
      have hj : j < es.length := by omega
      have hj' : (j : Int) < (es.length : Int) := by omega
      obtain ⟨e1, he1⟩ : ∃ e1, es[j]? = some e1 := ⟨_, List.getElem?_eq_getElem hj⟩
      obtain ⟨b', off', e3, _, hE1⟩ := HV.out.at HB1.out he1
      injection e3 with e3
      injection e3 with e3 e4
      subst e3 e4
      have hT : (if e1.kind = 5 then e1.text else ByteArray.empty) = keyN es i := by
        rw [HK.out, if_neg h0, Int.toNat_natCast]
        unfold textN
        rw [he1]
      have HE5 : Hid (e1.kind = 5 → e1.text = keyN es i) := fun h => by rw [← hT, if_pos h]
      have HE7 : Hid (e1.kind ≠ 5 → ByteArray.empty = keyN es i) := fun h => by rw [← hT, if_neg h]
      clear hT
      have d0 := hE1.c0
      have d3 := hE1.c3
      clear hE1 he1 HK hrr hj
      obtain ⟨kind, style, flag, text, anchor, tag, at_, code⟩ := e1
      by_cases h5 : kind = 5
      · have HE : Hid (text = keyN es i) := HE5.out h5
        subst h5
        go_wp2_with fail
        go_ret
        exact ⟨ret_tP HE.out, HB1.out⟩
      · have HE : Hid (ByteArray.empty = keyN es i) := HE7.out h5
        have t5 : (kind == 5) = false := by rw [beq_eq_false_iff_ne]; exact h5
        go_wp2_with fail
        go_ret
        exact ⟨ret_tP HE.out, HB1.out⟩
  · have t6 : (kind == 6) = false := by rw [beq_eq_false_iff_ne]; exact h6
    have HK : Hid (keyN es i = textN es i) := HK7.out h6
    clear HK6 HK7
    clear cD hrr
    by_cases h5 : kind = 5
    · have HE : Hid (text = keyN es i) := by show _ = _; rw [HK.out, HT5.out h5]
      subst h5
      go_enter Try.func18, Try.ntmps18
      go_wp2_with fail
      go_ret
      exact ⟨ret_tP HE.out, Below.refl _ _⟩
    · have HE : Hid (ByteArray.empty = keyN es i) := by show _ = _; rw [HK.out, HT7.out h5]
      have t5 : (kind == 5) = false := by rw [beq_eq_false_iff_ne]; exact h5
      go_enter Try.func18, Try.ntmps18
      go_wp2_with fail
      go_ret
      exact ⟨ret_tP HE.out, Below.refl _ _⟩
end Go.Proofs.Ytmbbmibkjnlkkaa
