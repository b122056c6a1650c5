/- Several texts in one: Pne Sne Sdf Hst Ppa Hsk Hsm. -/
import Derived.Test.YtmbbmibkjnlkkaaZpb
import Derived.Test.YtmbbmibkjnlkkaaZpd
import Derived.Test.YtmbbmibkjnlkkaaZpa
import Derived.LoopN
import Derived.OwnWalk
import Derived.WalkMore
import Derived.BigQuiet
import Derived.Deep.DeepCutAuto
import Derived.Test.YtmbbmibkjnlkkaaZpc
import Derived.Test.YtmbbmibkjnlkkaaProg
import Derived.WalkKit
import Derived.ProofKit
import Derived.Below
import Derived.WalkSpells
import Derived.Handy
/- Nodes within events, as plain functions: where a node ends. -/
namespace Go.Proofs.Ytmbbmibkjnlkkaa
open Go.RowKit
def colE (e : Ev) : Bool := decide (e.kind = 3) || decide (e.kind = 4)
def nodE (e : Ev) : Bool := decide (3 ≤ e.kind) && decide (e.kind ≤ 6)
def opn (e : Ev) (o : Int) : Int := if colE e = true then o + 1 else if e.kind = 7 then o - 1 else o
def endG : List Ev → Nat → Int → Int
  | [], _, _ => -1
  | e :: t, k, o => if opn e o = 0 then (k : Int) else endG t (k + 1) (opn e o)
/-- Where the node i ends. -/
def endN (l : List Ev) (i : Nat) : Int := match l[i]? with
  | none => -1
  | some e => if nodE e = false then -1 else endG (l.drop i) i 0
def endOf (l : List Ev) (i : Int) : Int := if nested l = false ∨ i < 0 ∨ (l.length : Int) ≤ i then -1 else endN l i.toNat
theorem endG_le : ∀ (l : List Ev) (k : Nat) (o : Int), endG l k o = -1 ∨ ((k : Int) ≤ endG l k o ∧ endG l k o < (k : Int) + l.length)
  | [], k, o => .inl rfl
  | e :: t, k, o => by
    rw [endG]
    split
    · right
      simp
      omega
    · rcases endG_le t (k + 1) (opn e o) with h | h
      · exact .inl h
      · right
        simp at h ⊢
        omega
theorem endN_le (l : List Ev) (i : Nat) (hi : i ≤ l.length) : endN l i = -1 ∨ ((i : Int) ≤ endN l i ∧ endN l i < l.length) := by
  unfold endN
  split
  · exact .inl rfl
  · split
    · exact .inl rfl
    · rcases endG_le (l.drop i) i 0 with h | h
      · exact .inl h
      · right
        rw [List.length_drop] at h
        omega
theorem drop_ev {l : List Ev} {k : Nat} {e : Ev} (h : l[k]? = some e) : l.drop k = e :: l.drop (k + 1) := by
  have hlt : k < l.length := (List.getElem?_eq_some_iff.1 h).1
  rw [List.drop_eq_getElem_cons hlt]
  congr 1
  exact (List.getElem?_eq_some_iff.1 h).2
/-- The collection around: back from k. -/
def upG (l : List Ev) : Nat → Int → Int
  | 0, _ => -1
  | k + 1, o => match l[k]? with
    | none => -1
    | some e => if e.kind = 7 then upG l k (o + 1) else if colE e = true then (if o = 0 then (k : Int) else upG l k (o - 1)) else upG l k o
def upOf (l : List Ev) (i : Int) : Int := if nested l = false ∨ i < 0 ∨ (l.length : Int) ≤ i then -1 else upG l i.toNat 0
def namE (e : Ev) (x : ByteArray) : Bool := nodE e && (!noB e.anchor && decide (e.anchor = x))
/-- The node of an alias: back from k. -/
def defG (l : List Ev) (i : Nat) (x : ByteArray) : Nat → Int
  | 0 => -1
  | k + 1 => match l[k]? with
    | none => -1
    | some e => if e.kind = 2 then -1 else if namE e x = true then (if endN l k < 0 ∨ (i : Int) < endN l k then -1 else (k : Int)) else defG l i x k
def defN (l : List Ev) (i : Nat) : Int := match l[i]? with
  | none => -1
  | some e => defG l i e.text i
def kindAt (l : List Ev) (i : Nat) : Int := match l[i]? with
  | none => 0
  | some e => e.kind
def defOf (l : List Ev) (i : Int) : Int := if nested l = false ∨ i < 0 ∨ (l.length : Int) ≤ i ∨ kindAt l i.toNat ≠ 6 then -1 else defN l i.toNat
/-- The nodes of a collection, from k on. -/
def kidG (l : List Ev) : Nat → Nat → List Nat → List Nat
  | 0, _, acc => acc
  | f + 1, k, acc => match l[k]? with
    | none => acc
    | some e => if nodE e = false then acc else if endN l k < 0 then acc ++ [k] else kidG l f ((endN l k).toNat + 1) (acc ++ [k])
def kidN (l : List Ev) (i : Nat) : List Nat := match l[i]? with
  | none => []
  | some e => if colE e = false then [] else kidG l (l.length + 1) (i + 1) []
def kidsOfE (l : List Ev) (i : Int) : List Nat := if nested l = false ∨ i < 0 ∨ (l.length : Int) ≤ i then [] else kidN l i.toNat
def rootAt (l : List Ev) (n : Bool) (i : Nat) : Bool := decide (0 < i) && (decide (kindAt l (i - 1) = 2) && ((match l[i]? with | none => false | some e => nodE e) && n))
def rootsTo (l : List Ev) (k : Nat) : List Nat := (List.range k).filter (rootAt l (nested l))
def rootsOf (l : List Ev) : List Nat := rootsTo l l.length
def tiedAt (l : List Ev) (i : Nat) : Bool := !(decide (kindAt l i = 6)) || decide (0 ≤ defN l i)
def tiedTo (l : List Ev) (k : Nat) : Bool := (List.range k).all (tiedAt l)
def tied (l : List Ev) : Bool := nested l && tiedTo l l.length
def whole (l : List Ev) : Bool := tied l && decide (kindAt l (l.length - 1) ≠ 10)
end Go.Proofs.Ytmbbmibkjnlkkaa
/- The specification's nodes within events: where a node ends. -/
namespace Go.Proofs.Ytmbbmibkjnlkkaa
open Go.ChangeShapes Go.WideShapes Go.ChangeAt Go.RowKit
theorem ret_i {a b : Int} (h : a = b) : Ending.returned (.int .i64 a) = .returned (.int .i64 b) := by rw [h]
theorem ret_b {a b : Bool} (h : a = b) : Ending.returned (.bool a) = .returned (.bool b) := by rw [h]
theorem coll_any (e : Ev) (w : World) (r : Bool) (hr : colE e = r) :
    Calls Try.prog 47 #[.agg #[.int .i64 e.kind, .int .i64 e.style, .bool e.flag, .string e.text, .string e.anchor, .string e.tag, .int .i64 e.at_, .int .i64 e.code]] w fun e' w' => e' = .returned (.bool r) ∧ Below w.heap.size w w' := by
  have HB : Hid (Below w.heap.size w (w.alloc (.cells #[.int .i64 e.kind, .int .i64 e.style, .bool e.flag, .string e.text, .string e.anchor, .string e.tag, .int .i64 e.at_, .int .i64 e.code] 38))) := (Below.refl _ w).alloc (Nat.le_refl _) _
  have HR : Hid (colE e = r) := hr
  clear hr
  by_cases h3 : e.kind = 3
  · have t3 : (e.kind == 3) = true := by rw [h3]; rfl
    have HO : Hid (true = r) := by show _ = _; rw [← HR.out]; unfold colE; rw [decide_eq_true h3]; rfl
    clear h3
    go_enter Try.func47, Try.ntmps47
    go_wp2_with fail
    go_ret
    exact ⟨ret_b HO.out, HB.out⟩
  · have t3 : (e.kind == 3) = false := by rw [beq_eq_false_iff_ne]; exact h3
    by_cases h4 : e.kind = 4
    · have t4 : (e.kind == 4) = true := by rw [h4]; rfl
      have HO : Hid (true = r) := by show _ = _; rw [← HR.out]; unfold colE; rw [decide_eq_true h4]; simp
      clear h3 h4
      go_enter Try.func47, Try.ntmps47
      go_wp2_with fail
      go_ret
      exact ⟨ret_b HO.out, HB.out⟩
    · have t4 : (e.kind == 4) = false := by rw [beq_eq_false_iff_ne]; exact h4
      have HO : Hid (false = r) := by show _ = _; rw [← HR.out]; unfold colE; rw [decide_eq_false h3, decide_eq_false h4]; rfl
      clear h3 h4
      go_enter Try.func47, Try.ntmps47
      go_wp2_with fail
      go_ret
      exact ⟨ret_b HO.out, HB.out⟩
theorem node_any (e : Ev) (w : World) (r : Bool) (hr : nodE e = r) :
    Calls Try.prog 43 #[.agg #[.int .i64 e.kind, .int .i64 e.style, .bool e.flag, .string e.text, .string e.anchor, .string e.tag, .int .i64 e.at_, .int .i64 e.code]] w fun e' w' => e' = .returned (.bool r) ∧ Below w.heap.size w w' := by
  have HB : Hid (Below w.heap.size w (w.alloc (.cells #[.int .i64 e.kind, .int .i64 e.style, .bool e.flag, .string e.text, .string e.anchor, .string e.tag, .int .i64 e.at_, .int .i64 e.code] 38))) := (Below.refl _ w).alloc (Nat.le_refl _) _
  have HR : Hid (nodE e = r) := hr
  clear hr
  by_cases h3 : 3 ≤ e.kind
  · have t3 : e.kind ≥ 3 := h3
    by_cases h6 : e.kind ≤ 6
    · have HO : Hid (true = r) := by show _ = _; rw [← HR.out]; unfold nodE; rw [decide_eq_true h3, decide_eq_true h6]; rfl
      go_enter Try.func43, Try.ntmps43
      go_wp2_with fail
      go_ret
      exact ⟨ret_b HO.out, HB.out⟩
    · have HO : Hid (false = r) := by show _ = _; rw [← HR.out]; unfold nodE; rw [decide_eq_false h6]; simp
      go_enter Try.func43, Try.ntmps43
      go_wp2_with fail
      go_ret
      exact ⟨ret_b HO.out, HB.out⟩
  · have HO : Hid (false = r) := by show _ = _; rw [← HR.out]; unfold nodE; rw [decide_eq_false h3]; rfl
    have t3 : ¬ e.kind ≥ 3 := h3
    go_enter Try.func43, Try.ntmps43
    go_wp2_with fail
    go_ret
    exact ⟨ret_b HO.out, HB.out⟩
set_option maxRecDepth 100000 in
set_option maxHeartbeats 8000000 in
theorem end_any (w : World) (v : Value) (es : List Ev) (hV : SlE w v es) (hl : es.length ≤ 1048576) (i : Nat) (hi : i < es.length) (r : Int) (hr : endN es i = r) :
    Calls Try.prog 36 #[v, .int .i64 (i : Int)] w fun e w' => e = .returned (.int .i64 r) ∧ Below w.heap.size w w' := by
  obtain ⟨a, c, rfl⟩ := hV.sl
  have HV : Hid (SlE w (.slice a es.length c) es) := hV
  obtain ⟨e0, he0⟩ : ∃ e0, es[i]? = some e0 := ⟨_, List.getElem?_eq_getElem hi⟩
  obtain ⟨b, off, rfl, hbl, hE⟩ := hV.at (Below.refl _ w) he0
  have HBL : Hid (b < w.heap.size) := hbl
  obtain ⟨n0, hn0⟩ : ∃ n0, nodE e0 = n0 := ⟨_, rfl⟩
  have HR : Hid ((if n0 = false then -1 else endG (es.drop i) i 0) = r) := by show _ = _; rw [← hr]; unfold endN; rw [he0]; show _ = (if nodE e0 = false then -1 else endG (es.drop i) i 0); rw [hn0]
  have cN := fun w' => node_any e0 w' n0 hn0
  obtain ⟨d0, d1, d2, d3, d4, d5, d6, d7⟩ := hE
  have hi' : (i : Int) < (es.length : Int) := by omega
  have hl' : (es.length : Int) ≤ 1048576 := by omega
  have HI : Hid (i < es.length) := hi
  clear hV hbl he0 hn0 hr hi
  go_enter Try.func36, Try.ntmps36
  go_wp2_with fail
  refine (cN _).mono ?_
  rintro e9 w1 ⟨rfl, hb1⟩
  have HB1 : Hid (Below w.heap.size w w1) := hb1
  clear hb1 cN d0 d1 d2 d3 d4 d5 d6 d7
  cases n0 with
  | false =>
    have HO : Hid ((-1 : Int) = r) := HR.out
    go_wp2_with fail
    go_ret
    exact ⟨ret_i HO.out, HB1.out⟩
  | true =>
    have HO : Hid (endG (es.drop i) i 0 = r) := HR.out
    clear HR
    go_wp2_with fail
    go_loopw [5, 6] (fun ov kv wr => ∃ (k : Nat) (o : Int), ov = .int .i64 o ∧ kv = .int .i64 (k : Int) ∧ k ≤ es.length ∧ -(k : Int) ≤ o ∧ o ≤ (k : Int) ∧ Hid (endG (es.drop k) k o = r) ∧ Hid (Below w.heap.size w wr)) (fun _ kv _ => es.length - (intOf kv).toNat)
    case atStart => exact ⟨i, 0, rfl, rfl, Nat.le_of_lt HI.out, by omega, by omega, HO, HB1⟩
    case round =>
      obtain ⟨k, o, rfl, rfl, hk, ho1, ho2, HG, HB⟩ := hrel
      clear HO HB1
      by_cases hlt : k < es.length
      case neg =>
        obtain rfl : k = es.length := by omega
        have hlt' : ¬ (es.length : Int) < (es.length : Int) := by omega
        have HE : Hid ((-1 : Int) = r) := by show _ = _; rw [← HG.out, List.drop_length]; rfl
        go_wp2_with fail
        go_ret
        exact ⟨ret_i HE.out, HB.out⟩
      have hlt' : (k : Int) < (es.length : Int) := by omega
      obtain ⟨e, he⟩ : ∃ e, es[k]? = some e := ⟨_, List.getElem?_eq_getElem hlt⟩
      obtain ⟨b2, off2, e2, _, hE⟩ := HV.out.at HB.out he
      injection e2 with e2
      injection e2 with e2 e3 _
      subst e2
      subst e3
      have hdr := drop_ev he
      have hg := HG.out
      rw [hdr, endG] at hg
      have HG2 : Hid ((if opn e o = 0 then (k : Int) else endG (es.drop (k + 1)) (k + 1) (opn e o)) = r) := hg
      obtain ⟨cb, hcb⟩ : ∃ cb, colE e = cb := ⟨_, rfl⟩
      have cC := fun w' => coll_any e w' cb hcb
      have HEL : Hid (es[k]? = some e) := he
      have HCB : Hid (colE e = cb) := hcb
      obtain ⟨d0, d1, d2, d3, d4, d5, d6, d7⟩ := hE
      clear hdr hg he hcb
      go_wp2_with fail
      refine (cC _).mono ?_
      rintro e9 w2 ⟨rfl, hb2⟩
      have HB2 : Hid (Below w.heap.size w w2) := HB.out.trans (hb2.mono HB.out.size)
      clear hb2 cC d0 d1 d2 d3 d4 d5 d6 d7
      obtain ⟨b3, off3, e2, _, hE⟩ := HV.out.at HB2.out HEL.out
      injection e2 with e2
      injection e2 with e2 e3 _
      subst e2
      subst e3
      have d0 := hE.c0
      clear hE
      cases cb with
      | true =>
        have hk7 : (e.kind == 7) = false := by
          have h := HCB.out
          unfold colE at h
          rw [Bool.or_eq_true] at h
          rw [beq_eq_false_iff_ne]
          rcases h with h | h
          · have := of_decide_eq_true h; omega
          · have := of_decide_eq_true h; omega
        have HOP : Hid (opn e o = o + 1) := by show _ = _; unfold opn; rw [if_pos HCB.out]
        by_cases hz : o + 1 = 0
        · have tz : (o + 1 == 0) = true := by rw [hz]; rfl
          have HE : Hid ((k : Int) = r) := by show _ = _; rw [← HG2.out, if_pos (HOP.out.trans hz)]
          clear hz
          go_wp2_with fail
          go_ret
          exact ⟨ret_i HE.out, HB2.out⟩
        · have tz : (o + 1 == 0) = false := by rw [beq_eq_false_iff_ne]; exact hz
          have HE : Hid (endG (es.drop (k + 1)) (k + 1) (o + 1) = r) := by show _ = _; rw [← HG2.out, HOP.out, if_neg hz]
          clear hz
          go_wp2_with fail
          go_roundw
          case rel => exact ⟨k + 1, o + 1, rfl, by go_num, hlt, by omega, by omega, HE, HB2⟩
          case measure => simp [intOf]; omega
      | false =>
        by_cases h7 : e.kind = 7
        · have hk7 : (e.kind == 7) = true := by rw [h7]; rfl
          have HOP : Hid (opn e o = o - 1) := by show _ = _; unfold opn; rw [if_neg (by rw [HCB.out]; simp), if_pos h7]
          clear h7
          by_cases hz : o - 1 = 0
          · have tz : (o - 1 == 0) = true := by rw [hz]; rfl
            have HE : Hid ((k : Int) = r) := by show _ = _; rw [← HG2.out, if_pos (HOP.out.trans hz)]
            clear hz
            go_wp2_with fail
            go_ret
            exact ⟨ret_i HE.out, HB2.out⟩
          · have tz : (o - 1 == 0) = false := by rw [beq_eq_false_iff_ne]; exact hz
            have HE : Hid (endG (es.drop (k + 1)) (k + 1) (o - 1) = r) := by show _ = _; rw [← HG2.out, HOP.out, if_neg hz]
            clear hz
            go_wp2_with fail
            go_roundw
            case rel => exact ⟨k + 1, o - 1, rfl, by go_num, hlt, by omega, by omega, HE, HB2⟩
            case measure => simp [intOf]; omega
        · have hk7 : (e.kind == 7) = false := by rw [beq_eq_false_iff_ne]; exact h7
          have HOP : Hid (opn e o = o) := by show _ = _; unfold opn; rw [if_neg (by rw [HCB.out]; simp), if_neg h7]
          clear h7
          by_cases hz : o = 0
          · have tz : (o == 0) = true := by rw [hz]; rfl
            have HE : Hid ((k : Int) = r) := by show _ = _; rw [← HG2.out, if_pos (HOP.out.trans hz)]
            clear hz
            go_wp2_with fail
            go_ret
            exact ⟨ret_i HE.out, HB2.out⟩
          · have tz : (o == 0) = false := by rw [beq_eq_false_iff_ne]; exact hz
            have HE : Hid (endG (es.drop (k + 1)) (k + 1) o = r) := by show _ = _; rw [← HG2.out, HOP.out, if_neg hz]
            clear hz
            go_wp2_with fail
            go_roundw
            case rel => exact ⟨k + 1, o, rfl, by go_num, hlt, by omega, by omega, HE, HB2⟩
            case measure => simp [intOf]; omega
end Go.Proofs.Ytmbbmibkjnlkkaa
/- The specification's nodes within events: the node of an alias. -/
namespace Go.Proofs.Ytmbbmibkjnlkkaa
open Go.ChangeShapes Go.WideShapes Go.ChangeAt Go.RowKit
theorem ba_of_list {a b : ByteArray} (h : a.toList = b.toList) : a = b := by
  rw [ByteArray.toList_eq, ByteArray.toList_eq] at h
  have : a.data = b.data := by apply Array.ext'; exact h
  cases a; cases b; simp at this; rw [this]
set_option maxRecDepth 100000 in
set_option maxHeartbeats 8000000 in
theorem def_any (w : World) (v : Value) (es : List Ev) (hV : SlE w v es) (hl : es.length ≤ 1048576) (i : Nat) (hi : i < es.length) (r : Int) (hr : defN es i = r) :
    Calls Try.prog 30 #[v, .int .i64 (i : Int)] w fun e w' => e = .returned (.int .i64 r) ∧ Below w.heap.size w w' := by
  obtain ⟨a, c, rfl⟩ := hV.sl
  have HV : Hid (SlE w (.slice a es.length c) es) := hV
  obtain ⟨e0, he0⟩ : ∃ e0, es[i]? = some e0 := ⟨_, List.getElem?_eq_getElem hi⟩
  obtain ⟨b, off, rfl, hbl, hE0⟩ := hV.at (Below.refl _ w) he0
  have HBL : Hid (b < w.heap.size) := hbl
  have HT0 : Hid (w.cell? ⟨b, off + i * 8 + 3, none⟩ = some (.string e0.text)) := hE0.c3
  have HE0 : Hid (es[i]? = some e0) := he0
  obtain ⟨x, hx⟩ : ∃ x, e0.text = x := ⟨_, rfl⟩
  have HX : Hid (e0.text = x) := hx
  have HO : Hid (defG es i x i = r) := by show _ = _; rw [← hr]; unfold defN; rw [he0]; show _ = defG es i e0.text i; rw [hx]
  have hi' : (i : Int) < (es.length : Int) := by omega
  have hl' : (es.length : Int) ≤ 1048576 := by omega
  have HI : Hid (i < es.length ∧ es.length ≤ 1048576) := ⟨hi, hl⟩
  have HTX : Hid (w.cell? ⟨b, off + i * 8 + 3, none⟩ = some (.string x)) := by show _ = _; rw [← HX.out]; exact HT0.out
  clear hV hbl he0 hr hi hx hE0 HT0 HE0 HX
  go_enter Try.func30, Try.ntmps30
  go_wp2_with fail
  go_loopw [5] (fun kv wr => ∃ (k : Nat), kv = .int .i64 ((k : Int) - 1) ∧ k ≤ i ∧ Hid (defG es i x k = r) ∧ Hid (Below w.heap.size w wr)) (fun kv _ => (intOf kv + 1).toNat)
  case atStart => exact ⟨i, rfl, Nat.le_refl _, HO, Below.refl _ _⟩
  case round =>
    obtain ⟨k1, rfl, hk, HG, HB⟩ := hrel
    clear HO
    cases k1 with
    | zero =>
      have HE : Hid ((-1 : Int) = r) := HG.out
      have hlt' : ¬ ((0 : Nat) : Int) - 1 ≥ 0 := by omega
      go_wp2_with fail
      go_ret
      exact ⟨ret_i HE.out, HB.out⟩
    | succ k =>
      have hkk : ((k + 1 : Nat) : Int) - 1 = (k : Int) := by omega
      rw [hkk]
      have hk0 : (k : Int) ≥ 0 := by omega
      have hlt : k < es.length := by have := HI.out; omega
      have hlt' : (k : Int) < (es.length : Int) := by omega
      obtain ⟨e, he⟩ : ∃ e, es[k]? = some e := ⟨_, List.getElem?_eq_getElem hlt⟩
      have HEK : Hid (es[k]? = some e) := he
      obtain ⟨b2, off2, e2, _, hE⟩ := HV.out.at HB.out he
      injection e2 with e2
      injection e2 with e2 e3 _
      subst e2
      subst e3
      have hg := HG.out
      rw [defG, he] at hg
      have HG2 : Hid ((if e.kind = 2 then -1 else if namE e x = true then (if endN es k < 0 ∨ (i : Int) < endN es k then -1 else (k : Int)) else defG es i x k) = r) := hg
      have HK : Hid (k + 1 ≤ i) := hk
      obtain ⟨d0, d1, d2, d3, d4, d5, d6, d7⟩ := hE
      clear hg he hkk hk
      by_cases h2 : e.kind = 2
      · have tk : (e.kind != 2) = false := by rw [h2]; rfl
        have HE : Hid ((-1 : Int) = r) := by show _ = _; rw [← HG2.out, if_pos h2]
        clear h2
        go_wp2_with fail
        go_ret
        exact ⟨ret_i HE.out, HB.out⟩
      have tk : (e.kind != 2) = true := by rw [bne_iff_ne]; exact h2
      have HG3 : Hid ((if namE e x = true then (if endN es k < 0 ∨ (i : Int) < endN es k then -1 else (k : Int)) else defG es i x k) = r) := by show _ = _; rw [← HG2.out, if_neg h2]
      obtain ⟨nb, hnb⟩ : ∃ nb, nodE e = nb := ⟨_, rfl⟩
      have HNB : Hid (nodE e = nb) := hnb
      have cN : Hid (∀ w', Calls Try.prog 43 #[.agg #[.int .i64 e.kind, .int .i64 e.style, .bool e.flag, .string e.text, .string e.anchor, .string e.tag, .int .i64 e.at_, .int .i64 e.code]] w' fun e' w'' => e' = .returned (.bool nb) ∧ Below w'.heap.size w' w'') := fun w' => node_any e w' nb hnb
      clear h2 hnb HG2
      have HBR : Hid (b < wr.heap.size) := Nat.lt_of_lt_of_le HBL.out HB.out.size
      have x3 : wr.cell? ⟨b, off + i * 8 + 3, none⟩ = some (.string x) := (HB.out.cell (p := ⟨b, off + i * 8 + 3, none⟩) HBL.out).trans HTX.out
      have hcl : ∀ (m : Bw wr) j, m.val.cell? ⟨b, j, none⟩ = wr.cell? ⟨b, j, none⟩ := fun m j => m.ok.cell (p := ⟨b, j, none⟩) HBR.out
      have m0 := fun m => (hcl m _).trans d0
      have m1 := fun m => (hcl m _).trans d1
      have m2 := fun m => (hcl m _).trans d2
      have m3 := fun m => (hcl m _).trans d3
      have m4 := fun m => (hcl m _).trans d4
      have m5 := fun m => (hcl m _).trans d5
      have m6 := fun m => (hcl m _).trans d6
      have m7 := fun m => (hcl m _).trans d7
      have mx3 := fun m => (hcl m _).trans x3
      have hNc := Bw.calls (w := wr) (fun w' _ => cN.out w')
      have hne0 := Bw.some wr
      clear hcl d1 d2 d3 d4 d5 d6 d7 x3
      cases nb with
      | false =>
        have HE : Hid (defG es i x k = r) := by show _ = _; rw [← HG3.out, if_neg (by unfold namE; rw [HNB.out]; simp)]
        go_upto_region 4 with fail
        clear d0
        refine wp_region_bw (w0 := wr) (by kernel_rfl) (by kernel_rfl) (Below.refl _ _) ?_
        repeat (go_big_quiet_step ((go_at_call 43; exact hNc _)))
        refine wpQuiet_nil ?_
        rintro _ ⟨mw, rfl⟩
        all_goals (
          have HB2 : Hid (Below w.heap.size w mw.val) := HB.out.trans (mw.ok.mono HB.out.size)
          generalize mw.val = w2 at *
          clear m0 m1 m2 m3 m4 m5 m6 m7 mx3 hNc hne0
          go_wp2_with fail
          go_roundw
          case rel => exact ⟨k, rfl, by have := HK.out; omega, HE, HB2⟩
          case measure => simp [intOf])
      | true =>
        by_cases hno : e.anchor.toList = []
        · have HE : Hid (defG es i x k = r) := by show _ = _; rw [← HG3.out, if_neg (by unfold namE; rw [show noB e.anchor = true by unfold noB; rw [hno]; rfl]; simp)]
          go_upto_region 4 with fail
          clear d0
          refine wp_region_bw (w0 := wr) (by kernel_rfl) (by kernel_rfl) (Below.refl _ _) ?_
          repeat (go_big_quiet_step ((go_at_call 43; exact hNc _)))
          refine wpQuiet_nil ?_
          rintro _ ⟨mw, rfl⟩
          all_goals (
            have HB2 : Hid (Below w.heap.size w mw.val) := HB.out.trans (mw.ok.mono HB.out.size)
            generalize mw.val = w2 at *
            clear m0 m1 m2 m3 m4 m5 m6 m7 mx3 hNc hne0
            go_wp2_with fail
            go_roundw
            case rel => exact ⟨k, rfl, by have := HK.out; omega, HE, HB2⟩
            case measure => simp [intOf])
        · have hie : e.anchor.toList.isEmpty = false := by cases hh : e.anchor.toList with | nil => exact absurd hh hno | cons _ _ => rfl
          by_cases hxe : e.anchor = x
          · have HNM : Hid (namE e x = true) := by show _ = _; unfold namE; rw [HNB.out, decide_eq_true hxe, show noB e.anchor = false by unfold noB; rw [beq_eq_false_iff_ne]; exact hno]; rfl
            obtain ⟨y, hy⟩ : ∃ y, endN es k = y := ⟨_, rfl⟩
            have HE : Hid ((if y < 0 ∨ (i : Int) < y then -1 else (k : Int)) = r) := by show _ = _; rw [← HG3.out, if_pos HNM.out, hy]
            have cE : Hid (∀ w', Below w.heap.size w w' → Calls Try.prog 36 #[.slice (some ⟨b, off, none⟩) es.length c, .int .i64 (k : Int)] w' fun e w'' => e = .returned (.int .i64 y) ∧ Below w'.heap.size w' w'') := fun w' hb => end_any w' _ es (HV.out.stays hb) HI.out.2 k hlt y hy
            have hyl : y ≤ 1048576 := by rcases endN_le es k (Nat.le_of_lt hlt) with h | h <;> rw [hy] at h <;> have := HI.out.2 <;> omega
            have hyg : -1 ≤ y := by rcases endN_le es k (Nat.le_of_lt hlt) with h | h <;> rw [hy] at h <;> omega
            clear hy
            have HXE : Hid (e.anchor = x) := hxe
            have teq : (e.anchor.toList == x.toList) = true := by rw [hxe]; simp
            clear hxe
            go_upto_region 4 with fail
            clear d0
            refine wp_region_bw (w0 := wr) (by kernel_rfl) (by kernel_rfl) (Below.refl _ _) ?_
            repeat (go_big_quiet_step ((go_at_call 43; exact hNc _)))
            refine wpQuiet_nil ?_
            rintro _ ⟨mw, rfl⟩
            all_goals (
              have HB2 : Hid (Below w.heap.size w mw.val) := HB.out.trans (mw.ok.mono HB.out.size)
              generalize mw.val = w2 at *
              clear m0 m1 m2 m3 m4 m5 m6 m7 mx3 hNc hne0
              go_wp2_with fail
              refine (cE.out w2 HB2.out).mono ?_
              rintro e9 w3 ⟨rfl, hb3⟩
              have HB3 : Hid (Below w.heap.size w w3) := HB2.out.trans (hb3.mono HB2.out.size)
              clear hb3
              by_cases hy0 : y < 0
              · have HF : Hid ((-1 : Int) = r) := by show _ = _; rw [← HE.out, if_pos (.inl hy0)]
                go_wp2_with fail
                go_ret
                exact ⟨ret_i HF.out, HB3.out⟩
              · by_cases hyi : (i : Int) < y
                · have HF : Hid ((-1 : Int) = r) := by show _ = _; rw [← HE.out, if_pos (.inr hyi)]
                  have hyi' : y > (i : Int) := hyi
                  go_wp2_with fail
                  go_ret
                  exact ⟨ret_i HF.out, HB3.out⟩
                · have HF : Hid ((k : Int) = r) := by show _ = _; rw [← HE.out, if_neg (by omega)]
                  have hyi' : ¬ y > (i : Int) := hyi
                  go_wp2_with fail
                  go_ret
                  exact ⟨ret_i HF.out, HB3.out⟩)
          · have HE : Hid (defG es i x k = r) := by show _ = _; rw [← HG3.out, if_neg (by unfold namE; rw [decide_eq_false hxe]; simp)]
            have hne : (e.anchor.toList == x.toList) = false := by rw [beq_eq_false_iff_ne]; intro h; exact hxe (ba_of_list h)
            clear hxe
            go_upto_region 4 with fail
            clear d0
            refine wp_region_bw (w0 := wr) (by kernel_rfl) (by kernel_rfl) (Below.refl _ _) ?_
            repeat (go_big_quiet_step ((go_at_call 43; exact hNc _)))
            refine wpQuiet_nil ?_
            rintro _ ⟨mw, rfl⟩
            all_goals (
              have HB2 : Hid (Below w.heap.size w mw.val) := HB.out.trans (mw.ok.mono HB.out.size)
              generalize mw.val = w2 at *
              clear m0 m1 m2 m3 m4 m5 m6 m7 mx3 hNc hne0
              go_wp2_with fail
              go_roundw
              case rel => exact ⟨k, rfl, by have := HK.out; omega, HE, HB2⟩
              case measure => simp [intOf])
end Go.Proofs.Ytmbbmibkjnlkkaa
/- The specification's l17Key and KeyText. -/
namespace Go.Proofs.Ytmbbmibkjnlkkaa
open Go.ChangeShapes Go.WideShapes Go.ChangeAt Go.RowKit
theorem defG_lt (l : List Ev) (i : Nat) (x : ByteArray) : ∀ k : Nat, defG l i x k < (k : Int) ∧ -1 ≤ defG l i x k
  | 0 => ⟨by show (-1 : Int) < 0; omega, by show (-1 : Int) ≤ -1; omega⟩
  | k + 1 => by
    have ih := defG_lt l i x k
    rw [defG]
    cases l[k]? with
    | none => exact ⟨by show (-1 : Int) < _; omega, by show (-1 : Int) ≤ -1; omega⟩
    | some e =>
      show (if e.kind = 2 then (-1 : Int) else if namE e x = true then (if endN l k < 0 ∨ (i : Int) < endN l k then -1 else (k : Int)) else defG l i x k) < _ ∧ -1 ≤ (if e.kind = 2 then (-1 : Int) else if namE e x = true then (if endN l k < 0 ∨ (i : Int) < endN l k then -1 else (k : Int)) else defG l i x k)
      split
      · exact ⟨by omega, by omega⟩
      · split
        · split
          · exact ⟨by omega, by omega⟩
          · exact ⟨by omega, by omega⟩
        · exact ⟨by omega, by omega⟩
def textN (l : List Ev) (i : Nat) : ByteArray := match l[i]? with
  | none => ByteArray.empty
  | some e => if e.kind = 5 then e.text else ByteArray.empty
def keyN (l : List Ev) (i : Nat) : ByteArray := match l[i]? with
  | none => ByteArray.empty
  | some e => if e.kind = 6 then (if defN l i < 0 then ByteArray.empty else textN l (defN l i).toNat) else textN l i
theorem ret_tP {a b : ByteArray} (h : a = b) : Ending.returned (.string a) = .returned (.string b) := by rw [h]
set_option maxRecDepth 100000 in
set_option maxHeartbeats 8000000 in
theorem key_any (w : World) (v : Value) (es : List Ev) (hV : SlE w v es) (hl : es.length ≤ 1048576) (i : Nat) (hi : i < es.length) :
    Calls Try.prog 18 #[v, .int .i64 (i : Int)] w fun e w' => e = .returned (.string (keyN es i)) ∧ Below w.heap.size w w' := by
  obtain ⟨a, c, rfl⟩ := hV.sl
  have HV : Hid (SlE w (.slice a es.length c) es) := hV
  obtain ⟨e0, he0⟩ : ∃ e0, es[i]? = some e0 := ⟨_, List.getElem?_eq_getElem hi⟩
  obtain ⟨b, off, rfl, hbl, hE0⟩ := hV.at (Below.refl _ w) he0
  have hi' : (i : Int) < (es.length : Int) := by omega
  have hl' : (es.length : Int) ≤ 1048576 := by omega
  have HK : Hid (keyN es i = if e0.kind = 6 then (if defN es i < 0 then ByteArray.empty else textN es (defN es i).toNat) else textN es i) := by show _ = _; unfold keyN; rw [he0]
  have HT0 : Hid (textN es i = if e0.kind = 5 then e0.text else ByteArray.empty) := by show _ = _; unfold textN; rw [he0]
  obtain ⟨r, hr⟩ : ∃ r, defN es i = r := ⟨_, rfl⟩
  have hrr : r < (i : Int) ∧ -1 ≤ r := by
    rw [← hr]
    unfold defN
    rw [he0]
    exact defG_lt es i e0.text i
  have cD := def_any w _ es hV hl i hi r hr
  rw [hr] at HK
  have HK6 : Hid (e0.kind = 6 → keyN es i = if r < 0 then ByteArray.empty else textN es r.toNat) := fun h => by rw [HK.out, if_pos h]
  have HK7 : Hid (e0.kind ≠ 6 → keyN es i = textN es i) := fun h => by rw [HK.out, if_neg h]
  have HT5 : Hid (e0.kind = 5 → textN es i = e0.text) := fun h => by rw [HT0.out, if_pos h]
  have HT7 : Hid (e0.kind ≠ 5 → textN es i = ByteArray.empty) := fun h => by rw [HT0.out, if_neg h]
  clear HK HT0
  have d0 := hE0.c0
  have d3 := hE0.c3
  clear hV he0 hr hE0
  obtain ⟨kind, style, flag, text, anchor, tag, at_, code⟩ := e0
  by_cases h6 : kind = 6
  · subst h6
    have HK : Hid (keyN es i = if r < 0 then ByteArray.empty else textN es r.toNat) := HK6.out rfl
    clear HK6 HK7 HT5 HT7
    go_enter Try.func18, Try.ntmps18
    go_wp2_with fail
    refine cD.mono ?_
    rintro e w1 ⟨rfl, hb1⟩
    have HB1 : Hid (Below w.heap.size w w1) := hb1
    clear hb1 cD d0 d3
    by_cases h0 : r < 0
    · have HE : Hid (ByteArray.empty = keyN es i) := by show _ = _; rw [HK.out, if_pos h0]
      go_wp2_with fail
      go_ret
      exact ⟨ret_tP HE.out, HB1.out⟩
    · obtain ⟨j, rfl⟩ : ∃ j : Nat, r = (j : Int) := ⟨r.toNat, by omega⟩
      have hj : j < es.length := by omega
      have hj' : (j : Int) < (es.length : Int) := by omega
      obtain ⟨e1, he1⟩ : ∃ e1, es[j]? = some e1 := ⟨_, List.getElem?_eq_getElem hj⟩
      obtain ⟨b', off', e3, _, hE1⟩ := HV.out.at HB1.out he1
      injection e3 with e3
      injection e3 with e3 e4
      subst e3 e4
      have hT : (if e1.kind = 5 then e1.text else ByteArray.empty) = keyN es i := by
        rw [HK.out, if_neg h0, Int.toNat_natCast]
        unfold textN
        rw [he1]
      have HE5 : Hid (e1.kind = 5 → e1.text = keyN es i) := fun h => by rw [← hT, if_pos h]
      have HE7 : Hid (e1.kind ≠ 5 → ByteArray.empty = keyN es i) := fun h => by rw [← hT, if_neg h]
      clear hT
      have d0 := hE1.c0
      have d3 := hE1.c3
      clear hE1 he1 HK hrr hj
      obtain ⟨kind, style, flag, text, anchor, tag, at_, code⟩ := e1
      by_cases h5 : kind = 5
      · have HE : Hid (text = keyN es i) := HE5.out h5
        subst h5
        go_wp2_with fail
        go_ret
        exact ⟨ret_tP HE.out, HB1.out⟩
      · have HE : Hid (ByteArray.empty = keyN es i) := HE7.out h5
        have t5 : (kind == 5) = false := by rw [beq_eq_false_iff_ne]; exact h5
        go_wp2_with fail
        go_ret
        exact ⟨ret_tP HE.out, HB1.out⟩
  · have t6 : (kind == 6) = false := by rw [beq_eq_false_iff_ne]; exact h6
    have HK : Hid (keyN es i = textN es i) := HK7.out h6
    clear HK6 HK7
    clear cD hrr
    by_cases h5 : kind = 5
    · have HE : Hid (text = keyN es i) := by show _ = _; rw [HK.out, HT5.out h5]
      subst h5
      go_enter Try.func18, Try.ntmps18
      go_wp2_with fail
      go_ret
      exact ⟨ret_tP HE.out, Below.refl _ _⟩
    · have HE : Hid (ByteArray.empty = keyN es i) := by show _ = _; rw [HK.out, HT7.out h5]
      have t5 : (kind == 5) = false := by rw [beq_eq_false_iff_ne]; exact h5
      go_enter Try.func18, Try.ntmps18
      go_wp2_with fail
      go_ret
      exact ⟨ret_tP HE.out, Below.refl _ _⟩
end Go.Proofs.Ytmbbmibkjnlkkaa
/- Where a place is, plain. -/
namespace Go.Proofs.Ytmbbmibkjnlkkaa
theorem upG_lt (l : List Ev) : ∀ (k : Nat) (o : Int), upG l k o < (k : Int) ∧ -1 ≤ upG l k o
  | 0, _ => ⟨by show (-1 : Int) < 0; omega, by show (-1 : Int) ≤ -1; omega⟩
  | k + 1, o => by
    have i1 := upG_lt l k (o + 1)
    have i2 := upG_lt l k (o - 1)
    have i3 := upG_lt l k o
    rw [upG]
    cases l[k]? with
    | none => exact ⟨by show (-1 : Int) < _; omega, by show (-1 : Int) ≤ -1; omega⟩
    | some e =>
      show (if e.kind = 7 then upG l k (o + 1) else if colE e = true then (if o = 0 then (k : Int) else upG l k (o - 1)) else upG l k o) < _ ∧ -1 ≤ (if e.kind = 7 then upG l k (o + 1) else if colE e = true then (if o = 0 then (k : Int) else upG l k (o - 1)) else upG l k o)
      split
      · exact ⟨by omega, by omega⟩
      · split
        · split
          · exact ⟨by omega, by omega⟩
          · exact ⟨by omega, by omega⟩
        · exact ⟨by omega, by omega⟩
theorem kidG_lt (l : List Ev) : ∀ (f k : Nat) (acc : List Nat), (∀ x ∈ acc, x < l.length) → ∀ x ∈ kidG l f k acc, x < l.length
  | 0, _, acc, h => h
  | f + 1, k, acc, h => by
    rw [kidG]
    cases he : l[k]? with
    | none => exact h
    | some e =>
      have hk : k < l.length := (List.getElem?_eq_some_iff.1 he).1
      have h2 : ∀ x ∈ acc ++ [k], x < l.length := fun x hx => by
        rcases List.mem_append.1 hx with hx | hx
        · exact h x hx
        · rw [List.mem_singleton.1 hx]; exact hk
      show ∀ x ∈ (if nodE e = false then acc else if endN l k < 0 then acc ++ [k] else kidG l f ((endN l k).toNat + 1) (acc ++ [k])), x < l.length
      split
      · exact h
      · split
        · exact h2
        · exact kidG_lt l f _ _ h2
theorem kidG_lenP (l : List Ev) : ∀ (f k : Nat) (acc : List Nat), k ≤ l.length → acc.length ≤ k → (kidG l f k acc).length ≤ l.length
  | 0, k, acc, h1, h2 => by rw [kidG]; omega
  | f + 1, k, acc, h1, h2 => by
    rw [kidG]
    split
    · omega
    · rename_i e he
      have hlt : k < l.length := (List.getElem?_eq_some_iff.1 he).1
      split
      · omega
      · split
        · rw [List.length_append]
          show acc.length + 1 ≤ _
          omega
        · rename_i hy
          have h := endN_le l k h1
          exact kidG_lenP l f _ _ (by omega) (by rw [List.length_append]; show acc.length + 1 ≤ _; omega)
theorem kidN_lt (l : List Ev) (i : Nat) : ∀ x ∈ kidN l i, x < l.length := by
  unfold kidN
  cases l[i]? with
  | none => intro x hx; cases hx
  | some e =>
    show ∀ x ∈ (if colE e = false then [] else kidG l (l.length + 1) (i + 1) []), x < l.length
    split
    · intro x hx; cases hx
    · exact kidG_lt l _ _ [] (fun x hx => by cases hx)
/-- The last of the nodes that isn't behind i. -/
def lastK (K : List Nat) (i : Nat) : Nat → Nat
  | 0 => 0
  | k + 1 => if i < K.getD (k + 1) 0 then lastK K i k else k + 1
theorem lastK_le (K : List Nat) (i : Nat) : ∀ k, lastK K i k ≤ k
  | 0 => Nat.le_refl _
  | k + 1 => by
    have := lastK_le K i k
    rw [lastK]
    split <;> omega
def stepU (l : List Ev) (K : List Nat) (u i : Nat) : List Sg :=
  if K.length = 0 then [] else
    if kindAt l u = 3 then [⟨1, (lastK K i (K.length - 1) : Nat), ByteArray.empty⟩]
    else if lastK K i (K.length - 1) % 2 = 0 then [⟨3, (lastK K i (K.length - 1) / 2 : Nat), ByteArray.empty⟩]
    else [⟨2, 0, keyN l (K.getD (lastK K i (K.length - 1) - 1) 0)⟩]
def pathF (l : List Ev) : Nat → Nat → List Sg
  | 0, _ => []
  | f + 1, i => if upG l i 0 < 0 then [] else pathF l f (upG l i 0).toNat ++ if endN l (upG l i 0).toNat = (i : Int) then [] else stepU l (kidN l (upG l i 0).toNat) (upG l i 0).toNat i
theorem stepU_len (l : List Ev) (K : List Nat) (u i : Nat) : (stepU l K u i).length ≤ 1 := by
  unfold stepU
  split
  · exact Nat.zero_le _
  · split
    · exact Nat.le_refl _
    · split <;> exact Nat.le_refl _
theorem pathF_len (l : List Ev) : ∀ f i, (pathF l f i).length ≤ f
  | 0, _ => Nat.le_refl _
  | f + 1, i => by
    have ih := pathF_len l f (upG l i 0).toNat
    have h2 := stepU_len l (kidN l (upG l i 0).toNat) (upG l i 0).toNat i
    rw [pathF]
    split
    · exact Nat.zero_le _
    · rw [List.length_append]
      split
      · rw [List.length_nil]; omega
      · omega
/-- PathOf, plain. -/
def pathOf (l : List Ev) (i : Int) : List Sg := if nested l = false ∨ i < 0 ∨ (l.length : Int) ≤ i then [] else pathF l (i.toNat + 1) i.toNat
end Go.Proofs.Ytmbbmibkjnlkkaa
/- The specification's SegOk. -/
namespace Go.Proofs.Ytmbbmibkjnlkkaa
open Go.ChangeShapes Go.WideShapes Go.ChangeAt Go.RowKit
theorem ret_bP {a b : Bool} (h : a = b) : Ending.returned (.bool a) = .returned (.bool b) := by rw [h]
end Go.Proofs.Ytmbbmibkjnlkkaa
/- The specification's l17Match. -/
namespace Go.Proofs.Ytmbbmibkjnlkkaa
open Go.ChangeShapes Go.WideShapes Go.ChangeAt Go.RowKit
/-- The list behind its first element. -/
theorem SgL.tail {w : World} {b off c : Nat} {s : Sg} {t : List Sg} (h : SgL w (.slice (some ⟨b, off, none⟩) (s :: t).length c) (s :: t)) (x : Option Addr) (hx : t ≠ [] → x = some ⟨b, off + 3, none⟩) : SgL w (.slice x t.length (c - 1)) t := by
  by_cases h0 : t = []
  · subst h0
    exact .inl ⟨rfl, _, _, rfl⟩
  · right
    rcases h with ⟨e, _⟩ | ⟨_, b2, off2, c2, e, hlt, hc, hh⟩
    · cases e
    · injection e with e1 e2 e3
      injection e1 with e1
      injection e1 with e1 e4
      subst e1 e3 e4
      have hl : (s :: t).length = t.length + 1 := rfl
      refine ⟨h0, b, off + 3, c - 1, by rw [hx h0], hlt, by omega, fun i e hi j u hu => ?_⟩
      have := hh (i + 1) e (by simpa using hi) j u hu
      rw [show off + (i + 1) * 3 + j = off + 3 + i * 3 + j by omega] at this
      exact this
theorem SgL.tail1 {w : World} {b off c : Nat} {s : Sg} {t : List Sg} (h : SgL w (.slice (some ⟨b, off, none⟩) (s :: t).length c) (s :: t)) : SgL w (.slice (some ⟨b, off + 3, none⟩) t.length (c - 1)) t := h.tail _ (fun _ => rfl)
theorem SgL.tail0 {w : World} {b off c : Nat} {s : Sg} {t : List Sg} (h : SgL w (.slice (some ⟨b, off, none⟩) (s :: t).length c) (s :: t)) (hc : c - 1 = 0) : SgL w (.slice (some ⟨b, off, none⟩) t.length 0) t := by
  have hz : t = [] := by
    rcases h with ⟨e, _⟩ | ⟨_, b2, off2, c2, e, hlt, hc2, hh⟩
    · cases e
    · injection e with e1 e2 e3
      subst e3
      rw [List.length_cons] at hc2
      exact List.eq_nil_of_length_eq_zero (by omega)
  subst hz
  exact .inl ⟨rfl, _, _, rfl⟩
theorem SgL.first {w : World} {a : Option Addr} {c : Nat} {s : Sg} {t : List Sg} (h : SgL w (.slice a (s :: t).length c) (s :: t)) : ∃ b off, a = some ⟨b, off, none⟩ ∧ t.length + 1 ≤ c ∧ SgAt w b off s := by
  rcases h with ⟨e, _⟩ | ⟨_, b, off, c2, e, hlt, hc, hh⟩
  · cases e
  · injection e with e1 e2 e3
    subst e3
    have hz : ∀ j u, s.row[j]? = some u → w.cell? ⟨b, off + j, none⟩ = some u := fun j u hu => by
      have := hh 0 s rfl j u hu
      rw [show off + 0 * 3 + j = off + j by omega] at this
      exact this
    exact ⟨b, off, e1, hc, ⟨hz 0 _ rfl, hz 1 _ rfl, hz 2 _ rfl⟩⟩
end Go.Proofs.Ytmbbmibkjnlkkaa
