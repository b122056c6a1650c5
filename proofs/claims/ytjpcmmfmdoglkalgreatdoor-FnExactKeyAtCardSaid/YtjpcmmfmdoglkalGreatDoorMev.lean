/- Several texts in one: Evs Evl Flp Kyp. -/
import Derived.Test.YtjpcmmfmdoglkalGreatDoorFlw
import Derived.WalkKit
import Derived.ProofKit
import Derived.Below
import Derived.Test.YtjpcmmfmdoglkalGreatDoorPap
import Derived.Test.YtjpcmmfmdoglkalGreatDoorQut
/- Events, as they lie, and what EventOk answers, as plain functions. -/
namespace Go.Proofs.YtjpcmmfmdoglkalGreatDoor
open Go.RowKit
structure Ev where
  kind : Int
  style : Int
  flag : Bool
  text : ByteArray
  anchor : ByteArray
  tag : ByteArray
  at_ : Int
  code : Int
/-- An event's cells. -/
def Ev.row (e : Ev) : Array Value := #[.int .i64 e.kind, .int .i64 e.style, .bool e.flag, .string e.text, .string e.anchor, .string e.tag, .int .i64 e.at_, .int .i64 e.code]
/-- A byte that a name may have. -/
def pNm (c : Nat) : Bool := !(pG c || pF6 c)
def nmOk (s : ByteArray) : Bool := decide (fwd pNm s 0 = s.size) && decide (s.size ≤ 60)
def nodeK (k : Int) : Bool := k == 3 || k == 4 || k == 5
def loK (k : Int) : Int := if k = 5 then 1 else if k = 3 ∨ k = 4 then 6 else 0
def hiK (k : Int) : Int := if k = 5 then 5 else if k = 3 ∨ k = 4 then 7 else 0
def noB (s : ByteArray) : Bool := s.toList == []
/-- What comes behind the tests that all kinds have. -/
def evRest (e : Ev) : Bool :=
  if e.kind = 10 then decide (1 ≤ e.code ∧ e.code ≤ 99 ∧ 0 ≤ e.at_)
  else if e.kind = 6 ∧ (noB e.text = true ∨ nmOk e.text = false) then false
  else nmOk e.anchor && (decide (e.tag.size ≤ 120) && decide (e.code = 0 ∧ e.at_ = 0))
def evBad (e : Ev) : Bool := (e.flag && (e.kind != 2 && e.kind != 8)) || ((!noB e.text && (e.kind != 5 && e.kind != 6)) || ((!noB e.anchor || !noB e.tag) && !nodeK e.kind))
def evOk (e : Ev) : Bool :=
  if e.kind < 1 ∨ 10 < e.kind ∨ e.style < loK e.kind ∨ hiK e.kind < e.style then false
  else if evBad e = true then false
  else evRest e
theorem nm_step {s : ByteArray} {i : Nat} (hi : i < s.size) (h : pNm (bt s i) = true) : fwd pNm s i = fwd pNm s (i + 1) := fwd_step hi h
theorem nm_no {s : ByteArray} {i : Nat} (hi : i < s.size) (h : pNm (bt s i) = false) (hf : fwd pNm s 0 = fwd pNm s i) : nmOk s = false := by
  unfold nmOk
  rw [hf, fwd_stop h, decide_eq_false (by omega)]
  rfl
end Go.Proofs.YtjpcmmfmdoglkalGreatDoor
/- Lists of events, as they lie. -/
namespace Go.Proofs.YtjpcmmfmdoglkalGreatDoor
open Go.RowKit
/-- A list of events, as it lies. -/
def SlE (w : World) (v : Value) (es : List Ev) : Prop :=
  (es = [] ∧ ∃ a c, v = .slice a 0 c) ∨
  (es ≠ [] ∧ ∃ b off c, v = .slice (some ⟨b, off, none⟩) es.length c ∧ b < w.heap.size ∧ es.length ≤ c ∧ ∀ i e, es[i]? = some e → ∀ j u, e.row[j]? = some u → w.cell? ⟨b, off + i * 8 + j, none⟩ = some u)
theorem SlE.stays {w w' : World} {v : Value} {es : List Ev} (h : SlE w v es) (hb : Below w.heap.size w w') : SlE w' v es := by
  rcases h with h | ⟨h, b, off, c, e, hlt, hc, hh⟩
  · exact .inl h
  · exact .inr ⟨h, b, off, c, e, Nat.lt_of_lt_of_le hlt hb.size, hc, fun i p hi j u hu => by rw [hb.cell hlt]; exact hh i p hi j u hu⟩
theorem SlE.sl {w : World} {v : Value} {es : List Ev} (h : SlE w v es) : ∃ a c, v = .slice a es.length c := by
  rcases h with ⟨rfl, a, c, rfl⟩ | ⟨_, b, off, c, rfl, _⟩
  · exact ⟨a, c, rfl⟩
  · exact ⟨_, c, rfl⟩
/-- The cells of the element k. -/
structure EvAt (w : World) (b o : Nat) (e : Ev) : Prop where
  c0 : w.cell? ⟨b, o, none⟩ = some (.int .i64 e.kind)
  c1 : w.cell? ⟨b, o + 1, none⟩ = some (.int .i64 e.style)
  c2 : w.cell? ⟨b, o + 2, none⟩ = some (.bool e.flag)
  c3 : w.cell? ⟨b, o + 3, none⟩ = some (.string e.text)
  c4 : w.cell? ⟨b, o + 4, none⟩ = some (.string e.anchor)
  c5 : w.cell? ⟨b, o + 5, none⟩ = some (.string e.tag)
  c6 : w.cell? ⟨b, o + 6, none⟩ = some (.int .i64 e.at_)
  c7 : w.cell? ⟨b, o + 7, none⟩ = some (.int .i64 e.code)
theorem SlE.at {w wr : World} {a : Option Addr} {c : Nat} {es : List Ev} (h : SlE w (.slice a es.length c) es) (hb : Below w.heap.size w wr) {k : Nat} {e : Ev} (hx : es[k]? = some e) :
    ∃ b off, a = some ⟨b, off, none⟩ ∧ b < w.heap.size ∧ EvAt wr b (off + k * 8) e := by
  rcases h with ⟨e1, _⟩ | ⟨_, b, off, _, e1, hbl, _, hcell⟩
  · rw [e1] at hx; simp at hx
  · injection e1 with e1
    refine ⟨b, off, e1, hbl, ?_⟩
    have hc : ∀ j u, e.row[j]? = some u → wr.cell? ⟨b, off + k * 8 + j, none⟩ = some u := fun j u hu => by rw [hb.cell hbl]; exact hcell k e hx j u hu
    exact ⟨hc 0 _ rfl, hc 1 _ rfl, hc 2 _ rfl, hc 3 _ rfl, hc 4 _ rfl, hc 5 _ rfl, hc 6 _ rfl, hc 7 _ rfl⟩
theorem ev_at {w : World} {b : Nat} {t : TypeId} {x0 x1 x2 x3 x4 x5 x6 x7 : Value} (h : w.heap[b]? = some (.cells #[x0, x1, x2, x3, x4, x5, x6, x7] t (0, 0))) :
    w.cell? ⟨b, 0, none⟩ = some x0 ∧ w.cell? ⟨b, 1, none⟩ = some x1 ∧ w.cell? ⟨b, 2, none⟩ = some x2 ∧ w.cell? ⟨b, 3, none⟩ = some x3 ∧ w.cell? ⟨b, 4, none⟩ = some x4 ∧ w.cell? ⟨b, 5, none⟩ = some x5 ∧ w.cell? ⟨b, 6, none⟩ = some x6 ∧ w.cell? ⟨b, 7, none⟩ = some x7 := by
  simp [World.cell?, h]
/-- The sizes of the texts of an event, and of all of a list. -/
def Ev.tot (e : Ev) : Nat := e.text.size + e.anchor.size + e.tag.size
def totE : List Ev → Nat
  | [] => 0
  | e :: t => e.tot + totE t
theorem totE_app : ∀ (a b : List Ev), totE (a ++ b) = totE a + totE b
  | [], b => by simp [totE]
  | h :: t, b => by have := totE_app t b; simp only [List.cons_append, totE, this]; omega
theorem totE_take {es : List Ev} {k : Nat} {e : Ev} (h : es[k]? = some e) : totE (es.take (k + 1)) = totE (es.take k) + e.tot := by
  rw [List.take_add_one, h, totE_app]
  simp [totE]
theorem totE_mem : ∀ {es : List Ev} {e : Ev}, e ∈ es → e.tot ≤ totE es
  | x :: t, h, e => by
    rcases List.mem_cons.1 e with rfl | e
    · simp only [totE]; omega
    · have := totE_mem e
      simp only [totE]; omega
def wideE (e : Ev) : Prop := e.text.size ≤ 9223372036854775807 ∧ e.anchor.size ≤ 9223372036854775807 ∧ e.tag.size ≤ 9223372036854775807
def wideEs (es : List Ev) : Prop := ∀ e ∈ es, wideE e
end Go.Proofs.YtjpcmmfmdoglkalGreatDoor
/- The specification's reader of flow nodes, as plain functions. -/
namespace Go.Proofs.YtjpcmmfmdoglkalGreatDoor
open Go.RowKit
/-- The reader's own fields. -/
structure Rs where
  at_ : Nat
  out : List Ev
  code : Nat
  place : Nat
  deep : Nat
  names : List (ByteArray × Bool)
  prop : Nat
/-- What the reader asks of other functions: names, tags, what a tag stands for, quotes of both kinds. -/
structure Ask where
  name : ByteArray → Nat → ByteArray × Nat × Bool
  tag : ByteArray → Nat → ByteArray × Nat × Bool
  read : ByteArray → Option ByteArray
  single : ByteArray → Nat → ByteArray × Nat × Nat
  double : ByteArray → Nat → ByteArray × Nat × Nat
  plain : ByteArray → Nat → Int → Bool → ByteArray × Nat × Bool
  first : ByteArray → Nat → Bool → Bool
def ev0 : Ev := { kind := 0, style := 0, flag := false, text := ByteArray.empty, anchor := ByteArray.empty, tag := ByteArray.empty, at_ := 0, code := 0 }
def rFail (c p : Nat) (st : Rs) : Rs := if st.code = 0 then { st with code := c, place := p } else st
def rByte (s : ByteArray) (st : Rs) : Nat := if s.size ≤ st.at_ then 0 else bt s st.at_
def rStop (s : ByteArray) (st : Rs) : Rs := if s.size ≤ st.at_ then rFail 3 st.at_ st else if 0 < markN s st.at_ then rFail 4 st.at_ st else st
def rGap (s : ByteArray) (st : Rs) : Rs := rStop s { st with at_ := gap s st.at_ }
def rTell (e : Ev) (done : Bool) (st : Rs) : Rs := { st with out := st.out ++ [e], names := if noB e.anchor = true then st.names else st.names ++ [(e.anchor, done)] }
def rIdx (e : Ev) (st : Rs) : Int := if noB e.anchor = true then -1 else (st.names.length : Int)
def rText (e : Ev) (style : Int) (t : ByteArray) (st : Rs) : Rs := rTell { e with kind := 5, style := style, text := t } true st
/-- The last one of that name. -/
def lastN (x : ByteArray) : List (ByteArray × Bool) → Bool → Bool
  | [], d => d
  | p :: t, d => lastN x t (if p.1 = x then p.2 else d)
def rAlias (q : Ask) (s : ByteArray) (any : Bool) (st : Rs) : Rs :=
  if (q.name s st.at_).2.2 = false then rFail 7 st.at_ st
  else if any = true then rFail 16 st.at_ st
  else if lastN (q.name s st.at_).1 st.names false = false then rFail 14 st.at_ st
  else { st with out := st.out ++ [{ ev0 with kind := 6, text := (q.name s st.at_).1 }], at_ := (q.name s st.at_).2.1 }
def rQuoted (q : Ask) (s : ByteArray) (e : Ev) (st : Rs) : Rs :=
  if rByte s st = 34 then
    if (q.double s st.at_).2.2 ≠ 0 then rFail (q.double s st.at_).2.2 (q.double s st.at_).2.1 st
    else { rText e 3 (q.double s st.at_).1 st with at_ := (q.double s st.at_).2.1 }
  else if (q.single s st.at_).2.2 ≠ 0 then rFail (q.single s st.at_).2.2 (q.single s st.at_).2.1 st
  else { rText e 2 (q.single s st.at_).1 st with at_ := (q.single s st.at_).2.1 }
/-- An alias, a scalar in quotes or a plain one; and whether one is there. -/
def rScalar (q : Ask) (s : ByteArray) (e : Ev) (any : Bool) (n : Int) (flow : Bool) (st : Rs) : Rs × Bool :=
  if rByte s st = 42 then (rAlias q s any st, true)
  else if rByte s st = 39 ∨ rByte s st = 34 then (rQuoted q s e st, true)
  else if q.first s st.at_ flow = true then ({ rText e 1 (q.plain s st.at_ n flow).1 st with at_ := (q.plain s st.at_ n flow).2.1 }, true)
  else (st, false)
/-- What a property that stands at p is: its text, the place behind it, and whether it is one. -/
def propAt (q : Ask) (s : ByteArray) (b p : Nat) : ByteArray × Nat × Bool := if b = 33 then q.tag s p else q.name s p
def propBad (q : Ask) (s : ByteArray) (flow : Bool) (e : Ev) (b p : Nat) : Bool :=
  !(propAt q s b p).2.2 || ((b == 38 && !noB e.anchor) || (b == 33 && !noB e.tag)) || (!gapP s (propAt q s b p).2.1 && !(flow && pF6 (bt s (propAt q s b p).2.1)))
def rProps (q : Ask) (s : ByteArray) (flow : Bool) : Nat → Rs → Ev → Bool → Rs × Ev × Bool
  | 0, st, e, any => (st, e, any)
  | f + 1, st, e, any =>
    if st.code = 0 ∧ (rByte s st = 38 ∨ rByte s st = 33) then
      if propBad q s flow e (rByte s st) st.at_ = true then (rFail 7 st.at_ st, e, any)
      else if rByte s st = 38 then
        rProps q s flow f (if flow = true then rGap s { st with prop := (propAt q s 38 st.at_).2.1, at_ := wh s (propAt q s 38 st.at_).2.1 } else { st with prop := (propAt q s 38 st.at_).2.1, at_ := wh s (propAt q s 38 st.at_).2.1 }) { e with anchor := (propAt q s 38 st.at_).1 } true
      else match q.read (propAt q s 33 st.at_).1 with
        | none => (rFail 15 st.at_ st, e, any)
        | some t => rProps q s flow f (if flow = true then rGap s { st with prop := (propAt q s 33 st.at_).2.1, at_ := wh s (propAt q s 33 st.at_).2.1 } else { st with prop := (propAt q s 33 st.at_).2.1, at_ := wh s (propAt q s 33 st.at_).2.1 }) { e with tag := t } true
    else (st, e, any)
/-- A collection begins: the reader, and where its name lies; -2 where it is too deep. -/
def rOpen (e : Ev) (kind style : Int) (st : Rs) : Rs × Int :=
  if st.deep = 40 then (rFail 12 st.at_ st, -2)
  else (rTell { e with kind := kind, style := style } false { st with deep := st.deep + 1 }, rIdx { e with kind := kind, style := style } st)
def setDone : List (ByteArray × Bool) → Nat → List (ByteArray × Bool)
  | [], _ => []
  | p :: t, 0 => (p.1, true) :: t
  | p :: t, k + 1 => p :: setDone t k
def rClose (name : Int) (st : Rs) : Rs := { st with deep := st.deep - 1, out := st.out ++ [{ ev0 with kind := 7 }], names := if 0 ≤ name then setDone st.names name.toNat else st.names }
def rColon (s : ByteArray) (quoted : Bool) (st : Rs) : Bool := rByte s st == 58 && (quoted || (gapP s (st.at_ + 1) || pF6 (bt s (st.at_ + 1))))
/-- One function for all of it, by the mode m: 0 a node, 1 the rest of a list, 2 the rest of a map, 3 a key and its value; name: where the name of the list or of the map lies. -/
def rRun (q : Ask) (s : ByteArray) : Nat → Nat → Int → Rs → Rs
  | 0, _, _, st => st
  | f + 1, 0, _, st =>
    let r := rProps q s true (s.size + 1) st ev0 false
    if r.1.code ≠ 0 then r.1
    else if rByte s r.1 = 91 then
      rRun q s f 1 (rOpen r.2.1 3 6 r.1).2 { (rOpen r.2.1 3 6 r.1).1 with at_ := (rOpen r.2.1 3 6 r.1).1.at_ + 1 }
    else if rByte s r.1 = 123 then
      rRun q s f 2 (rOpen r.2.1 4 6 r.1).2 { (rOpen r.2.1 4 6 r.1).1 with at_ := (rOpen r.2.1 4 6 r.1).1.at_ + 1 }
    else if (rScalar q s r.2.1 r.2.2 (-1) true r.1).2 = true then (rScalar q s r.2.1 r.2.2 (-1) true r.1).1
    else if r.2.2 = true ∧ (rByte s r.1 = 44 ∨ rByte s r.1 = 93 ∨ rByte s r.1 = 125) then rText r.2.1 1 ByteArray.empty r.1
    else rFail 10 r.1.at_ r.1
  | f + 1, 1, name, st =>
    if st.code ≠ 0 then st
    else if (rGap s st).code ≠ 0 then rGap s st
    else if rByte s (rGap s st) = 93 then rClose name { rGap s st with at_ := (rGap s st).at_ + 1 }
    else if (rRun q s f 0 0 (rGap s st)).code ≠ 0 then rRun q s f 0 0 (rGap s st)
    else if (rGap s (rRun q s f 0 0 (rGap s st))).code ≠ 0 then rGap s (rRun q s f 0 0 (rGap s st))
    else if rByte s (rGap s (rRun q s f 0 0 (rGap s st))) = 44 then rRun q s f 1 name { rGap s (rRun q s f 0 0 (rGap s st)) with at_ := (rGap s (rRun q s f 0 0 (rGap s st))).at_ + 1 }
    else if rByte s (rGap s (rRun q s f 0 0 (rGap s st))) ≠ 93 then rRun q s f 1 name (rFail 11 (rGap s (rRun q s f 0 0 (rGap s st))).at_ (rGap s (rRun q s f 0 0 (rGap s st))))
    else rRun q s f 1 name (rGap s (rRun q s f 0 0 (rGap s st)))
  | f + 1, 2, name, st =>
    if st.code ≠ 0 then st
    else if (rGap s st).code ≠ 0 then rGap s st
    else if rByte s (rGap s st) = 125 then rClose name { rGap s st with at_ := (rGap s st).at_ + 1 }
    else if (rRun q s f 3 0 (rGap s st)).code ≠ 0 then rRun q s f 3 0 (rGap s st)
    else if (rGap s (rRun q s f 3 0 (rGap s st))).code ≠ 0 then rGap s (rRun q s f 3 0 (rGap s st))
    else if rByte s (rGap s (rRun q s f 3 0 (rGap s st))) = 44 then rRun q s f 2 name { rGap s (rRun q s f 3 0 (rGap s st)) with at_ := (rGap s (rRun q s f 3 0 (rGap s st))).at_ + 1 }
    else if rByte s (rGap s (rRun q s f 3 0 (rGap s st))) ≠ 125 then rRun q s f 2 name (rFail 11 (rGap s (rRun q s f 3 0 (rGap s st))).at_ (rGap s (rRun q s f 3 0 (rGap s st))))
    else rRun q s f 2 name (rGap s (rRun q s f 3 0 (rGap s st)))
  | f + 1, _ + 3, _, st =>
    let r := rProps q s true (s.size + 1) st ev0 false
    if r.1.code ≠ 0 then r.1
    else
      let b := rByte s r.1
      let k := rScalar q s r.2.1 r.2.2 (-1) true r.1
      if k.2 = false ∧ (r.2.2 = false ∨ (b ≠ 44 ∧ b ≠ 125 ∧ b ≠ 58)) then rFail 10 r.1.at_ r.1
      else
        let st2 := if k.2 = true then k.1 else rText r.2.1 1 ByteArray.empty r.1
        if st2.code ≠ 0 then st2
        else if (rGap s st2).code ≠ 0 then rGap s st2
        else if rColon s (b == 39 || b == 34) (rGap s st2) = true then
          let st3 := rGap s { rGap s st2 with at_ := (rGap s st2).at_ + 1 }
          if st3.code ≠ 0 then st3
          else if rByte s st3 ≠ 44 ∧ rByte s st3 ≠ 125 then rRun q s f 0 0 st3
          else rText ev0 1 ByteArray.empty st3
        else rText ev0 1 ByteArray.empty (rGap s st2)
def st0 (k : Nat) : Rs := { at_ := k, out := [], code := 0, place := 0, deep := 0, names := [], prop := 0 }
/-- FlowAt. -/
def flAt (q : Ask) (s : ByteArray) (k : Nat) : List Ev × Nat × Nat :=
  let r := if (rGap s (st0 k)).code ≠ 0 then rGap s (st0 k) else rRun q s (4 * s.size + 8) 0 0 (rGap s (st0 k))
  if r.code ≠ 0 then (r.out, r.place, r.code) else (r.out, r.at_, 0)
end Go.Proofs.YtjpcmmfmdoglkalGreatDoor
/- An implicit key: what KeyAt answers, as plain functions. -/
namespace Go.Proofs.YtjpcmmfmdoglkalGreatDoor
open Go.RowKit
/-- The end of the scalar of one line that stands at p; p where there is none. -/
def keyE (q : Ask) (s : ByteArray) (p : Nat) : Nat :=
  if bt s p = 42 then (if (q.name s p).2.2 = true then (q.name s p).2.1 else p)
  else if bt s p = 39 then (if (q.single s p).2.2 = 0 ∧ (q.single s p).2.1 ≤ endL s p then (q.single s p).2.1 else p)
  else if bt s p = 34 then (if (q.double s p).2.2 = 0 ∧ (q.double s p).2.1 ≤ endL s p then (q.double s p).2.1 else p)
  else if q.first s p false = true then plE s p false else p
def keyNo (s : ByteArray) (p e w : Nat) : Bool := decide (e = p) || (decide (1000 < e - p) || (decide (s.size ≤ w) || (decide (bt s w ≠ 58) || !gapP s (w + 1))))
def keyW (s : ByteArray) (p e : Nat) : Nat × Nat × Bool := if keyNo s p e (wh s e) = true then (0, 0, false) else (e, wh s e, true)
def keyAt (q : Ask) (s : ByteArray) (p : Nat) : Nat × Nat × Bool := if s.size ≤ p then (0, 0, false) else keyW s p (keyE q s p)
def dashP (s : ByteArray) (k : Nat) : Bool := decide (k < s.size) && (bt s k == 45 && gapP s (k + 1))
end Go.Proofs.YtjpcmmfmdoglkalGreatDoor
