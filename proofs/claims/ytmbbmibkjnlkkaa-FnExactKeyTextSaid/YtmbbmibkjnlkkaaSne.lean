/- The specification's nodes within events: where a node ends. -/
import Derived.Test.YtmbbmibkjnlkkaaPne
import Derived.Test.YtmbbmibkjnlkkaaPsh
import Derived.Test.YtmbbmibkjnlkkaaSmk
import Derived.LoopN
import Derived.OwnWalk
import Derived.WalkMore
namespace Go.Proofs.Ytmbbmibkjnlkkaa
open Go.ChangeShapes Go.WideShapes Go.ChangeAt Go.RowKit
theorem ret_i {a b : Int} (h : a = b) : Ending.returned (.int .i64 a) = .returned (.int .i64 b) := by rw [h]
theorem ret_b {a b : Bool} (h : a = b) : Ending.returned (.bool a) = .returned (.bool b) := by rw [h]
theorem coll_any (e : Ev) (w : World) (r : Bool) (hr : colE e = r) :
    Calls Try.prog 47 #[.agg #[.int .i64 e.kind, .int .i64 e.style, .bool e.flag, .string e.text, .string e.anchor, .string e.tag, .int .i64 e.at_, .int .i64 e.code]] w fun e' w' => e' = .returned (.bool r) ∧ Below w.heap.size w w' := by
  have HB : Hid (Below w.heap.size w (w.alloc (.cells #[.int .i64 e.kind, .int .i64 e.style, .bool e.flag, .string e.text, .string e.anchor, .string e.tag, .int .i64 e.at_, .int .i64 e.code] 38))) := (Below.refl _ w).alloc (Nat.le_refl _) _
  have HR : Hid (colE e = r) := hr
  clear hr
  by_cases h3 : e.kind = 3
  · have t3 : (e.kind == 3) = true := by rw [h3]; rfl
    have HO : Hid (true = r) := by show _ = _; rw [← HR.out]; unfold colE; rw [decide_eq_true h3]; rfl
    clear h3
    go_enter Try.func47, Try.ntmps47
    go_wp2_with fail
    go_ret
    exact ⟨ret_b HO.out, HB.out⟩
  · have t3 : (e.kind == 3) = false := by rw [beq_eq_false_iff_ne]; exact h3
    by_cases h4 : e.kind = 4
    · have t4 : (e.kind == 4) = true := by rw [h4]; rfl
      have HO : Hid (true = r) := by show _ = _; rw [← HR.out]; unfold colE; rw [decide_eq_true h4]; simp
      clear h3 h4
      go_enter Try.func47, Try.ntmps47
      go_wp2_with fail
      go_ret
      exact ⟨ret_b HO.out, HB.out⟩
    · have t4 : (e.kind == 4) = false := by rw [beq_eq_false_iff_ne]; exact h4
      have HO : Hid (false = r) := by show _ = _; rw [← HR.out]; unfold colE; rw [decide_eq_false h3, decide_eq_false h4]; rfl
      clear h3 h4
      go_enter Try.func47, Try.ntmps47
      go_wp2_with fail
      go_ret
      exact ⟨ret_b HO.out, HB.out⟩
theorem node_any (e : Ev) (w : World) (r : Bool) (hr : nodE e = r) :
    Calls Try.prog 43 #[.agg #[.int .i64 e.kind, .int .i64 e.style, .bool e.flag, .string e.text, .string e.anchor, .string e.tag, .int .i64 e.at_, .int .i64 e.code]] w fun e' w' => e' = .returned (.bool r) ∧ Below w.heap.size w w' := by
  have HB : Hid (Below w.heap.size w (w.alloc (.cells #[.int .i64 e.kind, .int .i64 e.style, .bool e.flag, .string e.text, .string e.anchor, .string e.tag, .int .i64 e.at_, .int .i64 e.code] 38))) := (Below.refl _ w).alloc (Nat.le_refl _) _
  have HR : Hid (nodE e = r) := hr
  clear hr
  by_cases h3 : 3 ≤ e.kind
  · have t3 : e.kind ≥ 3 := h3
    by_cases h6 : e.kind ≤ 6
    · have HO : Hid (true = r) := by show _ = _; rw [← HR.out]; unfold nodE; rw [decide_eq_true h3, decide_eq_true h6]; rfl
      go_enter Try.func43, Try.ntmps43
      go_wp2_with fail
      go_ret
      exact ⟨ret_b HO.out, HB.out⟩
    · have HO : Hid (false = r) := by show _ = _; rw [← HR.out]; unfold nodE; rw [decide_eq_false h6]; simp
      go_enter Try.func43, Try.ntmps43
      go_wp2_with fail
      go_ret
      exact ⟨ret_b HO.out, HB.out⟩
  · have HO : Hid (false = r) := by show _ = _; rw [← HR.out]; unfold nodE; rw [decide_eq_false h3]; rfl
    have t3 : ¬ e.kind ≥ 3 := h3
    go_enter Try.func43, Try.ntmps43
    go_wp2_with fail
    go_ret
    exact ⟨ret_b HO.out, HB.out⟩
set_option maxRecDepth 100000 in
set_option maxHeartbeats 8000000 in
theorem end_any (w : World) (v : Value) (es : List Ev) (hV : SlE w v es) (hl : es.length ≤ 1048576) (i : Nat) (hi : i < es.length) (r : Int) (hr : endN es i = r) :
    Calls Try.prog 36 #[v, .int .i64 (i : Int)] w fun e w' => e = .returned (.int .i64 r) ∧ Below w.heap.size w w' := by
  obtain ⟨a, c, rfl⟩ := hV.sl
  have HV : Hid (SlE w (.slice a es.length c) es) := hV
  obtain ⟨e0, he0⟩ : ∃ e0, es[i]? = some e0 := ⟨_, List.getElem?_eq_getElem hi⟩
  obtain ⟨b, off, rfl, hbl, hE⟩ := hV.at (Below.refl _ w) he0
  have HBL : Hid (b < w.heap.size) := hbl
  obtain ⟨n0, hn0⟩ : ∃ n0, nodE e0 = n0 := ⟨_, rfl⟩
  have HR : Hid ((if n0 = false then -1 else endG (es.drop i) i 0) = r) := by show _ = _; rw [← hr]; unfold endN; rw [he0]; show _ = (if nodE e0 = false then -1 else endG (es.drop i) i 0); rw [hn0]
  have cN := fun w' => node_any e0 w' n0 hn0
  obtain ⟨d0, d1, d2, d3, d4, d5, d6, d7⟩ := hE
  have hi' : (i : Int) < (es.length : Int) := by omega
  have hl' : (es.length : Int) ≤ 1048576 := by omega
  have HI : Hid (i < es.length) := hi
  clear hV hbl he0 hn0 hr hi
  go_enter Try.func36, Try.ntmps36
  go_wp2_with fail
  refine (cN _).mono ?_
  rintro e9 w1 ⟨rfl, hb1⟩
  have HB1 : Hid (Below w.heap.size w w1) := hb1
  clear hb1 cN d0 d1 d2 d3 d4 d5 d6 d7
  cases n0 with
  | false =>
    have HO : Hid ((-1 : Int) = r) := HR.out
    go_wp2_with fail
    go_ret
    exact ⟨ret_i HO.out, HB1.out⟩
  | true =>
    have HO : Hid (endG (es.drop i) i 0 = r) := HR.out
    clear HR
    go_wp2_with fail
    go_loopw [5, 6] (fun ov kv wr => ∃ (k : Nat) (o : Int), ov = .int .i64 o ∧ kv = .int .i64 (k : Int) ∧ k ≤ es.length ∧ -(k : Int) ≤ o ∧ o ≤ (k : Int) ∧ Hid (endG (es.drop k) k o = r) ∧ Hid (Below w.heap.size w wr)) (fun _ kv _ => es.length - (intOf kv).toNat)
    case atStart => exact ⟨i, 0, rfl, rfl, Nat.le_of_lt HI.out, by omega, by omega, HO, HB1⟩
    case round =>
      obtain ⟨k, o, rfl, rfl, hk, ho1, ho2, HG, HB⟩ := hrel
      clear HO HB1
      by_cases hlt : k < es.length
      case neg =>
        obtain rfl : k = es.length := by omega
        have hlt' : ¬ (es.length : Int) < (es.length : Int) := by omega
        have HE : Hid ((-1 : Int) = r) := by show _ = _; rw [← HG.out, List.drop_length]; rfl
        go_wp2_with fail
        go_ret
        exact ⟨ret_i HE.out, HB.out⟩
      have hlt' : (k : Int) < (es.length : Int) := by omega
      obtain ⟨e, he⟩ : ∃ e, es[k]? = some e := ⟨_, List.getElem?_eq_getElem hlt⟩
      obtain ⟨b2, off2, e2, _, hE⟩ := HV.out.at HB.out he
      injection e2 with e2
      injection e2 with e2 e3 _
      subst e2
      subst e3
      have hdr := drop_ev he
      have hg := HG.out
      rw [hdr, endG] at hg
      have HG2 : Hid ((if opn e o = 0 then (k : Int) else endG (es.drop (k + 1)) (k + 1) (opn e o)) = r) := hg
      obtain ⟨cb, hcb⟩ : ∃ cb, colE e = cb := ⟨_, rfl⟩
      have cC := fun w' => coll_any e w' cb hcb
      have HEL : Hid (es[k]? = some e) := he
      have HCB : Hid (colE e = cb) := hcb
      obtain ⟨d0, d1, d2, d3, d4, d5, d6, d7⟩ := hE
      clear hdr hg he hcb
      go_wp2_with fail
      refine (cC _).mono ?_
      rintro e9 w2 ⟨rfl, hb2⟩
      have HB2 : Hid (Below w.heap.size w w2) := HB.out.trans (hb2.mono HB.out.size)
      clear hb2 cC d0 d1 d2 d3 d4 d5 d6 d7
      obtain ⟨b3, off3, e2, _, hE⟩ := HV.out.at HB2.out HEL.out
      injection e2 with e2
      injection e2 with e2 e3 _
      subst e2
      subst e3
      have d0 := hE.c0
      clear hE
      cases cb with
      | true =>
        have hk7 : (e.kind == 7) = false := by
          have h := HCB.out
          unfold colE at h
          rw [Bool.or_eq_true] at h
          rw [beq_eq_false_iff_ne]
          rcases h with h | h
          · have := of_decide_eq_true h; omega
          · have := of_decide_eq_true h; omega
        have HOP : Hid (opn e o = o + 1) := by show _ = _; unfold opn; rw [if_pos HCB.out]
        by_cases hz : o + 1 = 0
        · have tz : (o + 1 == 0) = true := by rw [hz]; rfl
          have HE : Hid ((k : Int) = r) := by show _ = _; rw [← HG2.out, if_pos (HOP.out.trans hz)]
          clear hz
          go_wp2_with fail
          go_ret
          exact ⟨ret_i HE.out, HB2.out⟩
        · have tz : (o + 1 == 0) = false := by rw [beq_eq_false_iff_ne]; exact hz
          have HE : Hid (endG (es.drop (k + 1)) (k + 1) (o + 1) = r) := by show _ = _; rw [← HG2.out, HOP.out, if_neg hz]
          clear hz
          go_wp2_with fail
          go_roundw
          case rel => exact ⟨k + 1, o + 1, rfl, by go_num, hlt, by omega, by omega, HE, HB2⟩
          case measure => simp [intOf]; omega
      | false =>
        by_cases h7 : e.kind = 7
        · have hk7 : (e.kind == 7) = true := by rw [h7]; rfl
          have HOP : Hid (opn e o = o - 1) := by show _ = _; unfold opn; rw [if_neg (by rw [HCB.out]; simp), if_pos h7]
          clear h7
          by_cases hz : o - 1 = 0
          · have tz : (o - 1 == 0) = true := by rw [hz]; rfl
            have HE : Hid ((k : Int) = r) := by show _ = _; rw [← HG2.out, if_pos (HOP.out.trans hz)]
            clear hz
            go_wp2_with fail
            go_ret
            exact ⟨ret_i HE.out, HB2.out⟩
          · have tz : (o - 1 == 0) = false := by rw [beq_eq_false_iff_ne]; exact hz
            have HE : Hid (endG (es.drop (k + 1)) (k + 1) (o - 1) = r) := by show _ = _; rw [← HG2.out, HOP.out, if_neg hz]
            clear hz
            go_wp2_with fail
            go_roundw
            case rel => exact ⟨k + 1, o - 1, rfl, by go_num, hlt, by omega, by omega, HE, HB2⟩
            case measure => simp [intOf]; omega
        · have hk7 : (e.kind == 7) = false := by rw [beq_eq_false_iff_ne]; exact h7
          have HOP : Hid (opn e o = o) := by show _ = _; unfold opn; rw [if_neg (by rw [HCB.out]; simp), if_neg h7]
          clear h7
          by_cases hz : o = 0
          · have tz : (o == 0) = true := by rw [hz]; rfl
            have HE : Hid ((k : Int) = r) := by show _ = _; rw [← HG2.out, if_pos (HOP.out.trans hz)]
            clear hz
            go_wp2_with fail
            go_ret
            exact ⟨ret_i HE.out, HB2.out⟩
          · have tz : (o == 0) = false := by rw [beq_eq_false_iff_ne]; exact hz
            have HE : Hid (endG (es.drop (k + 1)) (k + 1) o = r) := by show _ = _; rw [← HG2.out, HOP.out, if_neg hz]
            clear hz
            go_wp2_with fail
            go_roundw
            case rel => exact ⟨k + 1, o, rfl, by go_num, hlt, by omega, by omega, HE, HB2⟩
            case measure => simp [intOf]; omega
end Go.Proofs.Ytmbbmibkjnlkkaa
