/- Several texts in one: Evs Evl Psh Rwe Bwr Tme Hpa Hpb. -/
import Derived.Test.YtmbbmibkjnlkkaaZpa
import Derived.WalkKit
import Derived.ProofKit
import Derived.Below
import Derived.Maps.AppendAt
import Derived.Deep.AppendLies
import Derived.OwnWalk
import Derived.Deep.Quiet
import Derived.BigQuiet
import Derived.Lib.BufferOwn
import Derived.Test.YtmbbmibkjnlkkaaProg
import Derived.WalkLawsBesides
import Derived.WalkSpells
import Derived.WalkMore
import Derived.Handy
import Derived.Laws.ResultCell
import Derived.Deep.OwnRows
import Derived.Laws.MakeOwn
import Derived.Deep.RegionWith
import Derived.Deep.QuietTactic
/- Events, as they lie, and what EventOk answers, as plain functions. -/
namespace Go.Proofs.Ytmbbmibkjnlkkaa
open Go.RowKit
structure Ev where
  kind : Int
  style : Int
  flag : Bool
  text : ByteArray
  anchor : ByteArray
  tag : ByteArray
  at_ : Int
  code : Int
/-- An event's cells. -/
def Ev.row (e : Ev) : Array Value := #[.int .i64 e.kind, .int .i64 e.style, .bool e.flag, .string e.text, .string e.anchor, .string e.tag, .int .i64 e.at_, .int .i64 e.code]
/-- A byte that a name may have. -/
def pNm (c : Nat) : Bool := !(pG c || pF6 c)
def nmOk (s : ByteArray) : Bool := decide (fwd pNm s 0 = s.size) && decide (s.size ≤ 60)
def nodeK (k : Int) : Bool := k == 3 || k == 4 || k == 5
def loK (k : Int) : Int := if k = 5 then 1 else if k = 3 ∨ k = 4 then 6 else 0
def hiK (k : Int) : Int := if k = 5 then 5 else if k = 3 ∨ k = 4 then 7 else 0
def noB (s : ByteArray) : Bool := s.toList == []
/-- What comes behind the tests that all kinds have. -/
def evRest (e : Ev) : Bool :=
  if e.kind = 10 then decide (1 ≤ e.code ∧ e.code ≤ 99 ∧ 0 ≤ e.at_)
  else if e.kind = 6 ∧ (noB e.text = true ∨ nmOk e.text = false) then false
  else nmOk e.anchor && (decide (e.tag.size ≤ 120) && decide (e.code = 0 ∧ e.at_ = 0))
def evBad (e : Ev) : Bool := (e.flag && (e.kind != 2 && e.kind != 8)) || ((!noB e.text && (e.kind != 5 && e.kind != 6)) || ((!noB e.anchor || !noB e.tag) && !nodeK e.kind))
def evOk (e : Ev) : Bool :=
  if e.kind < 1 ∨ 10 < e.kind ∨ e.style < loK e.kind ∨ hiK e.kind < e.style then false
  else if evBad e = true then false
  else evRest e
theorem nm_step {s : ByteArray} {i : Nat} (hi : i < s.size) (h : pNm (bt s i) = true) : fwd pNm s i = fwd pNm s (i + 1) := fwd_step hi h
theorem nm_no {s : ByteArray} {i : Nat} (hi : i < s.size) (h : pNm (bt s i) = false) (hf : fwd pNm s 0 = fwd pNm s i) : nmOk s = false := by
  unfold nmOk
  rw [hf, fwd_stop h, decide_eq_false (by omega)]
  rfl
end Go.Proofs.Ytmbbmibkjnlkkaa
/- Lists of events, as they lie. -/
namespace Go.Proofs.Ytmbbmibkjnlkkaa
open Go.RowKit
/-- A list of events, as it lies. -/
def SlE (w : World) (v : Value) (es : List Ev) : Prop :=
  (es = [] ∧ ∃ a c, v = .slice a 0 c) ∨
  (es ≠ [] ∧ ∃ b off c, v = .slice (some ⟨b, off, none⟩) es.length c ∧ b < w.heap.size ∧ es.length ≤ c ∧ ∀ i e, es[i]? = some e → ∀ j u, e.row[j]? = some u → w.cell? ⟨b, off + i * 8 + j, none⟩ = some u)
theorem SlE.stays {w w' : World} {v : Value} {es : List Ev} (h : SlE w v es) (hb : Below w.heap.size w w') : SlE w' v es := by
  rcases h with h | ⟨h, b, off, c, e, hlt, hc, hh⟩
  · exact .inl h
  · exact .inr ⟨h, b, off, c, e, Nat.lt_of_lt_of_le hlt hb.size, hc, fun i p hi j u hu => by rw [hb.cell hlt]; exact hh i p hi j u hu⟩
theorem SlE.sl {w : World} {v : Value} {es : List Ev} (h : SlE w v es) : ∃ a c, v = .slice a es.length c := by
  rcases h with ⟨rfl, a, c, rfl⟩ | ⟨_, b, off, c, rfl, _⟩
  · exact ⟨a, c, rfl⟩
  · exact ⟨_, c, rfl⟩
/-- The cells of the element k. -/
structure EvAt (w : World) (b o : Nat) (e : Ev) : Prop where
  c0 : w.cell? ⟨b, o, none⟩ = some (.int .i64 e.kind)
  c1 : w.cell? ⟨b, o + 1, none⟩ = some (.int .i64 e.style)
  c2 : w.cell? ⟨b, o + 2, none⟩ = some (.bool e.flag)
  c3 : w.cell? ⟨b, o + 3, none⟩ = some (.string e.text)
  c4 : w.cell? ⟨b, o + 4, none⟩ = some (.string e.anchor)
  c5 : w.cell? ⟨b, o + 5, none⟩ = some (.string e.tag)
  c6 : w.cell? ⟨b, o + 6, none⟩ = some (.int .i64 e.at_)
  c7 : w.cell? ⟨b, o + 7, none⟩ = some (.int .i64 e.code)
theorem SlE.at {w wr : World} {a : Option Addr} {c : Nat} {es : List Ev} (h : SlE w (.slice a es.length c) es) (hb : Below w.heap.size w wr) {k : Nat} {e : Ev} (hx : es[k]? = some e) :
    ∃ b off, a = some ⟨b, off, none⟩ ∧ b < w.heap.size ∧ EvAt wr b (off + k * 8) e := by
  rcases h with ⟨e1, _⟩ | ⟨_, b, off, _, e1, hbl, _, hcell⟩
  · rw [e1] at hx; simp at hx
  · injection e1 with e1
    refine ⟨b, off, e1, hbl, ?_⟩
    have hc : ∀ j u, e.row[j]? = some u → wr.cell? ⟨b, off + k * 8 + j, none⟩ = some u := fun j u hu => by rw [hb.cell hbl]; exact hcell k e hx j u hu
    exact ⟨hc 0 _ rfl, hc 1 _ rfl, hc 2 _ rfl, hc 3 _ rfl, hc 4 _ rfl, hc 5 _ rfl, hc 6 _ rfl, hc 7 _ rfl⟩
theorem ev_at {w : World} {b : Nat} {t : TypeId} {x0 x1 x2 x3 x4 x5 x6 x7 : Value} (h : w.heap[b]? = some (.cells #[x0, x1, x2, x3, x4, x5, x6, x7] t (0, 0))) :
    w.cell? ⟨b, 0, none⟩ = some x0 ∧ w.cell? ⟨b, 1, none⟩ = some x1 ∧ w.cell? ⟨b, 2, none⟩ = some x2 ∧ w.cell? ⟨b, 3, none⟩ = some x3 ∧ w.cell? ⟨b, 4, none⟩ = some x4 ∧ w.cell? ⟨b, 5, none⟩ = some x5 ∧ w.cell? ⟨b, 6, none⟩ = some x6 ∧ w.cell? ⟨b, 7, none⟩ = some x7 := by
  simp [World.cell?, h]
/-- The sizes of the texts of an event, and of all of a list. -/
def Ev.tot (e : Ev) : Nat := e.text.size + e.anchor.size + e.tag.size
def totE : List Ev → Nat
  | [] => 0
  | e :: t => e.tot + totE t
theorem totE_app : ∀ (a b : List Ev), totE (a ++ b) = totE a + totE b
  | [], b => by simp [totE]
  | h :: t, b => by have := totE_app t b; simp only [List.cons_append, totE, this]; omega
theorem totE_take {es : List Ev} {k : Nat} {e : Ev} (h : es[k]? = some e) : totE (es.take (k + 1)) = totE (es.take k) + e.tot := by
  rw [List.take_add_one, h, totE_app]
  simp [totE]
theorem totE_mem : ∀ {es : List Ev} {e : Ev}, e ∈ es → e.tot ≤ totE es
  | x :: t, h, e => by
    rcases List.mem_cons.1 e with rfl | e
    · simp only [totE]; omega
    · have := totE_mem e
      simp only [totE]; omega
def wideE (e : Ev) : Prop := e.text.size ≤ 9223372036854775807 ∧ e.anchor.size ≤ 9223372036854775807 ∧ e.tag.size ≤ 9223372036854775807
def wideEs (es : List Ev) : Prop := ∀ e ∈ es, wideE e
end Go.Proofs.Ytmbbmibkjnlkkaa
/- One element more at the end of a row that the call owns. -/
namespace Go.Proofs.Ytmbbmibkjnlkkaa
open Go.RowKit
def isSl' (v : Value) : Prop := ∃ a n c, v = .slice a n c
theorem append_run {P : Program} {w : World} {ops : Array Oper} {rest : List Oper} {o : Oper} {a : Act} {Q : Exit → Act → World → Prop}
    (hg : o.guard = none) (s x : Operand) (t : TypeId) (hop : o.op = Op.call { callee := Callee.builtin Builtin.append, args := #[s, x], argTypes := #[t, t] })
    (v u : Value) (hs : a.eval s = v) (hx : a.eval x = u) (r : Value) (w' : World) (hrun : (Builtin.append_ #[t, t] o.type #[v, u]).run P w = .ok r w')
    (hK : wpList P ops Q rest (a.put o.dst r) w') : wpList P ops Q (o :: rest) a w := by
  refine wpList_plain hg fun K hK' => ?_
  unfold Oper.wp execOp
  simp only [hop, resolve, invoke, builtin, Sem.run_bind, Sem.run_pure, Result.andThen_ok, List.map_toArray, List.map_cons, List.map_nil, hs, hx, hrun]
  exact hK' _ _ hK
theorem new_block (w : World) (o : Obj) : (w.alloc o).heap[w.heap.size]? = some o := by
  show (w.heap.push o)[w.heap.size]? = _
  simp
/-- The cells cs of one element come behind a row of n elements. -/
theorem push_own {P : Program} {ts e : TypeId} {z : Value} {sz bytes : Nat} (hu : P.underlying ts = some (.slice e)) (hi : (P.info? e).map (fun i => (i.zero, i.size, i.bytes)) = some (some z, sz, bytes)) (hz : z.cells.size = sz) (h0 : 0 < sz)
    (w : World) (lo : Nat) (v : Value) (n : Nat) (xs : List Value) (hown : w.ownsRow lo e sz v n xs) (cs : Array Value) (hl : cs.toList.length = sz) (h1 : ∀ u ∈ cs.toList, u.oneCell' = true) (hn : n ≤ 100000000) (hb : bytes ≤ 1000) (hlo : lo ≤ w.heap.size) (ty : TypeId) :
    ∃ v' w', (Builtin.append_ #[ts, ts] ty #[v, .slice (some ⟨w.heap.size, 0, none⟩) 1 1]).run P (w.alloc (.cells cs e)) = .ok v' w' ∧ isSl' v' ∧ w'.ownsRow lo e sz v' (n + 1) (xs ++ cs.toList) ∧ Below lo w w' ∧
      (∀ b, b < w.heap.size → v.ownBlock ≠ some b → w'.heap[b]? = w.heap[b]?) := by
  obtain ⟨ti, hti, hz0, hz1, hz2⟩ := info_parts hi
  obtain ⟨v2, w2, hr2, ho2, hg2, _, _⟩ := run_append_own_at (P := P) (w.alloc (.cells cs e)) lo ts ty e ti z sz bytes hu hti hz0 hz1 hz2 hz h0 v n xs (hown.alloc _) ⟨w.heap.size, 0, none⟩ 1 1 cs.toList (by rw [hl, Nat.one_mul])
    (World.news_of_block (cs := cs) (t := e) (fr := (0, 0)) (new_block w _)) h1 (by unfold maxLen; omega) (by
      have : (n + 1) * bytes ≤ 100000001 * 1000 := Nat.mul_le_mul (by omega) hb
      omega) (by simp; omega)
  have hsz : w.heap.size ≤ w2.heap.size := by have := hg2.size; simp at this; omega
  have hblk : ∀ b, b < w.heap.size → v.ownBlock ≠ some b → w2.heap[b]? = w.heap[b]? := fun b hb hne => (hg2.block b (by simp; omega) (fun e => hne e.symm)).trans (Below.heap_alloc w _ b hb)
  have hlo2 : ∀ b, v.ownBlock = some b → lo ≤ b := fun b hb => (hown.lt b hb).1
  refine ⟨v2, w2, hr2, ?_, ho2, ⟨hg2.os, hg2.tape, hg2.output, hsz, fun b hb => hblk b (by omega) (fun e => by have := hlo2 b e; omega)⟩, hblk⟩
  rcases ho2.2 with ⟨e, _⟩ | ⟨g, cap, cur, e, _⟩
  · exact ⟨_, _, _, e⟩
  · exact ⟨_, _, _, e⟩
/-- The cells cs of one element come behind a row of n elements. -/
theorem push_own2 {P : Program} {ts e : TypeId} {z : Value} {sz bytes : Nat} (hu : P.underlying ts = some (.slice e)) (hi : (P.info? e).map (fun i => (i.zero, i.size, i.bytes)) = some (some z, sz, bytes)) (hz : z.cells.size = sz) (h0 : 0 < sz)
    (w : World) (lo : Nat) (v : Value) (n : Nat) (xs : List Value) (hown : w.ownsRow lo e sz v n xs) (cs : Array Value) (hl : cs.toList.length = sz) (h1 : ∀ u ∈ cs.toList, u.oneCell' = true) (hn : n ≤ 100000000) (hb : bytes ≤ 1000) (hlo : lo ≤ w.heap.size) (ty : TypeId) :
    ∃ v' w', (Builtin.append_ #[ts, ts] ty #[v, .slice (some ⟨w.heap.size, 0, none⟩) 1 1]).run P (w.alloc (.cells cs e)) = .ok v' w' ∧ isSl' v' ∧ w'.ownsRow lo e sz v' (n + 1) (xs ++ cs.toList) ∧ Below lo w w' ∧
      (∀ b, b < w.heap.size → v.ownBlock ≠ some b → w'.heap[b]? = w.heap[b]?) ∧ (v'.ownBlock = v.ownBlock ∨ v'.ownBlock = some (w.heap.size + 1)) := by
  obtain ⟨ti, hti, hz0, hz1, hz2⟩ := info_parts hi
  obtain ⟨v2, w2, hr2, ho2, hg2, _, hid2⟩ := run_append_own_at (P := P) (w.alloc (.cells cs e)) lo ts ty e ti z sz bytes hu hti hz0 hz1 hz2 hz h0 v n xs (hown.alloc _) ⟨w.heap.size, 0, none⟩ 1 1 cs.toList (by rw [hl, Nat.one_mul])
    (World.news_of_block (cs := cs) (t := e) (fr := (0, 0)) (new_block w _)) h1 (by unfold maxLen; omega) (by
      have : (n + 1) * bytes ≤ 100000001 * 1000 := Nat.mul_le_mul (by omega) hb
      omega) (by simp; omega)
  have hsz : w.heap.size ≤ w2.heap.size := by have := hg2.size; simp at this; omega
  have hblk : ∀ b, b < w.heap.size → v.ownBlock ≠ some b → w2.heap[b]? = w.heap[b]? := fun b hb hne => (hg2.block b (by simp; omega) (fun e => hne e.symm)).trans (Below.heap_alloc w _ b hb)
  have hlo2 : ∀ b, v.ownBlock = some b → lo ≤ b := fun b hb => (hown.lt b hb).1
  refine ⟨v2, w2, hr2, ?_, ho2, ⟨hg2.os, hg2.tape, hg2.output, hsz, fun b hb => hblk b (by omega) (fun e => by have := hlo2 b e; omega)⟩, hblk, by simpa using hid2⟩
  rcases ho2.2 with ⟨e, _⟩ | ⟨g, cap, cur, e, _⟩
  · exact ⟨_, _, _, e⟩
  · exact ⟨_, _, _, e⟩
theorem row_same {w w' : World} {base : Nat} {e : TypeId} {size : Nat} {v : Value} {n : Nat} {xs : List Value} (h : w.ownsRow base e size v n xs) (hw : ∀ k, base ≤ k → k < w.heap.size → w'.heap[k]? = w.heap[k]?) : w'.ownsRow base e size v n xs := by
  refine ⟨h.1, ?_⟩
  rcases h.2 with hn | ⟨g, cap, cur, rfl, hb, hgg, rest⟩
  · exact .inl hn
  · exact .inr ⟨g, cap, cur, rfl, hb, by rw [hw g hb (Array.getElem?_eq_some_iff.1 hgg).1]; exact hgg, rest⟩
end Go.Proofs.Ytmbbmibkjnlkkaa
/- Events in a row. -/
namespace Go.Proofs.Ytmbbmibkjnlkkaa
open Go.RowKit
def rowsE (es : List Ev) : List Value := es.flatMap (fun e => e.row.toList)
end Go.Proofs.Ytmbbmibkjnlkkaa
/- A region that draws its order, whose operations read what was there and whose calls leave it as it was: one walk serves every order. -/
namespace Go.Proofs.Ytmbbmibkjnlkkaa
open Go.RowKit
/-- A later world in which what was there is as it was. -/
structure Bw (w : World) where
  val : World
  ok : Below w.heap.size w val
theorem wp_region_bw {P : Program} {id : Nat} {Q : Exit → Act → World → Prop} {a : Act} {w0 w : World} {l : List Oper} (hm : P.follows .mixedOrders = true) (hB : Region.lexB .any l.toArray = true) (hC : Below w0.heap.size w0 w)
    (h : wpQuiet P l.toArray (fun w' => ∃ n : Bw w0, w' = n.val) (fun a' => ∀ w', (∃ n : Bw w0, w' = n.val) → Q .normal a' w') l a) : (Code.region id l.toArray true).wp P Q a w := by
  refine wp_region_quiet (C := fun w' => ∃ n : Bw w0, w' = n.val) hm hB ⟨⟨w.drew, hC.drew⟩, rfl⟩ ?_
  rw [List.toList_toArray]
  exact h
theorem Bw.calls {P : Program} {f : FuncId} {args : Array Value} {w : World} {v : Value} (h : ∀ w', Below w.heap.size w w' → Calls P f args w' fun e w'' => e = .returned v ∧ Below w'.heap.size w' w'') (m : Bw w) :
    Calls P f args m.val fun e w' => e = .returned v ∧ ∃ m' : Bw w, w' = m'.val := by
  refine (h m.val m.ok).mono ?_
  rintro e w' ⟨rfl, hb⟩
  exact ⟨rfl, ⟨w', m.ok.trans (hb.mono m.ok.size)⟩, rfl⟩
theorem Bw.some (w : World) : Nonempty (Bw w) := ⟨⟨w, Below.refl _ _⟩⟩
end Go.Proofs.Ytmbbmibkjnlkkaa
/- Marking the events of a list that the call owns, and finding the marks again. -/
namespace Go.Proofs.Ytmbbmibkjnlkkaa
open Go.ChangeShapes Go.WideShapes Go.ChangeAt Go.RowKit
open Go.Lib (grownBy_setB grownBy_below)
theorem own_setE {w : World} {lo t size g n cap : Nat} {xs : List Value} (h : w.ownsRow lo t size (.slice (some ⟨g, 0, none⟩) n cap) n xs) (j : Nat) (u : Value) (hj : j < xs.length) :
    (w.setCell ⟨g, j, none⟩ u).ownsRow lo t size (.slice (some ⟨g, 0, none⟩) n cap) n (xs.set j u) := by
  refine ⟨by simpa using h.1, ?_⟩
  rcases h.2 with ⟨e, _⟩ | ⟨g', cap', cur, e, hb, hg, hn, hm, hs, ht⟩
  · cases e
  · injection e with e1 e2 e3
    injection e1 with e1
    injection e1 with e1
    subst e1
    subst e3
    refine .inr ⟨g, cap, cur.setIfInBounds j u, rfl, hb, by simp [World.setCell, Array.getElem?_modify, hg], hn, hm, by simpa using hs, ?_⟩
    rw [← ht]
    apply List.ext_getElem?
    intro i
    rw [List.getElem?_set, List.getElem?_take, Array.toList_setIfInBounds, List.getElem?_set]
    have hl : xs.length = n * size := h.1
    have hcl : n * size ≤ cur.size := by rw [hs]; exact Nat.mul_le_mul_right _ hn
    by_cases e : j = i
    · subst e
      rw [if_pos (by omega), if_pos rfl, if_pos rfl]
      simp only [Array.length_toList, List.length_take]
      rw [if_pos (by omega), if_pos (by omega)]
    · rw [if_neg e, if_neg e, List.getElem?_take]
/-- The event that marks the place j, the first number being k. -/
def mkE (k j : Nat) : Ev := { kind := ((k + 8 * j : Nat) : Int), style := ((k + 8 * j + 1 : Nat) : Int), flag := (k + 8 * j + 2) % 3 == 0, text := mT (k + 8 * j + 3), anchor := mT (k + 8 * j + 4), tag := mT (k + 8 * j + 5), at_ := ((k + 8 * j + 6 : Nat) : Int), code := ((k + 8 * j + 7 : Nat) : Int) }
def mkEs (k n : Nat) : List Ev := (List.range n).map (mkE k)
theorem mkEs_len (k n : Nat) : (mkEs k n).length = n := by simp [mkEs]
theorem mkEs_succ (k n : Nat) : mkEs k (n + 1) = mkEs k n ++ [mkE k n] := by simp [mkEs, List.range_succ]
theorem rowsE_len : ∀ es : List Ev, (rowsE es).length = 8 * es.length
  | [] => rfl
  | e :: t => by
    have := rowsE_len t
    have e1 : rowsE (e :: t) = e.row.toList ++ rowsE t := rfl
    rw [e1, List.length_append, this, List.length_cons]
    show 8 + _ = _
    omega
theorem rowsE_app (a b : List Ev) : rowsE (a ++ b) = rowsE a ++ rowsE b := by unfold rowsE; rw [List.flatMap_append]
/-- Eight cells set: one event for another. -/
theorem rows_set8 {a c : List Ev} {e : Ev} {n : Nat} (hn : a.length * 8 = n) (f : Ev) :
    ((((((((rowsE (a ++ e :: c)).set n (.int .i64 f.kind)).set (n + 1) (.int .i64 f.style)).set (n + 2) (.bool f.flag)).set (n + 3) (.string f.text)).set (n + 4) (.string f.anchor)).set (n + 5) (.string f.tag)).set (n + 6) (.int .i64 f.at_)).set (n + 7) (.int .i64 f.code) = rowsE (a ++ f :: c) := by
  have hl : (rowsE a).length = n := by rw [rowsE_len, ← hn]; omega
  have e1 : rowsE (a ++ e :: c) = rowsE a ++ (.int .i64 e.kind :: .int .i64 e.style :: .bool e.flag :: .string e.text :: .string e.anchor :: .string e.tag :: .int .i64 e.at_ :: .int .i64 e.code :: rowsE c) := by rw [rowsE_app]; rfl
  have e2 : rowsE (a ++ f :: c) = rowsE a ++ (.int .i64 f.kind :: .int .i64 f.style :: .bool f.flag :: .string f.text :: .string f.anchor :: .string f.tag :: .int .i64 f.at_ :: .int .i64 f.code :: rowsE c) := by rw [rowsE_app]; rfl
  rw [e1, e2]
  have st : ∀ (xs : List Value) (i : Nat) (u : Value), (rowsE a ++ xs).set (n + i) u = rowsE a ++ xs.set i u := fun xs i u => by
    rw [List.set_append_right _ _ (by omega), show n + i - (rowsE a).length = i by omega]
  have st0 : ∀ (xs : List Value) (u : Value), (rowsE a ++ xs).set n u = rowsE a ++ xs.set 0 u := fun xs u => st xs 0 u
  rw [st0, st, st, st, st, st, st, st]
  rfl
theorem row_cell {w : World} {lo g n cap : Nat} {xs : List Value} (h : w.ownsRow lo 38 8 (.slice (some ⟨g, 0, none⟩) n cap) n xs) (i : Nat) (hi : i < xs.length) : (∃ z, w.cell? ⟨g, i, none⟩ = some z) ∧ w.frozen? ⟨g, i, none⟩ = false := by
  constructor
  · have := h.cells (g := g) rfl i (xs[i]'hi) (by simp)
    have hadd : (⟨g, 0, none⟩ : Addr).add i = ⟨g, i, none⟩ := by unfold Addr.add; split <;> simp_all
    rw [hadd] at this
    exact ⟨_, this⟩
  · rcases h.2 with ⟨e, _⟩ | ⟨g', cap', cur, e, _, hgg, _⟩
    · cases e
    · injection e with e1 _ _
      injection e1 with e1
      injection e1 with e1
      subst e1
      simp [World.frozen?, hgg]
theorem row_below {w w' : World} {lo e sz : Nat} {v : Value} {n : Nat} {xs : List Value} (h : w.ownsRow lo e sz v n xs) (hb : Below w.heap.size w w') : w'.ownsRow lo e sz v n xs := row_same h (fun k _ hk => hb.block k hk)
theorem row_lt {w : World} {lo e sz g n cap : Nat} {xs : List Value} (h : w.ownsRow lo e sz (.slice (some ⟨g, 0, none⟩) n cap) n xs) : lo ≤ g ∧ g < w.heap.size := h.lt g rfl
set_option maxHeartbeats 16000000 in
theorem markEs_any (w : World) (lo : Nat) (v : Value) (es : List Ev) (k : Nat) (hO : w.ownsRow lo 38 8 v es.length (rowsE es)) (hz : es.length ≤ 5000000) (k0 : 0 < k) (k1 : k ≤ 10) :
    Calls Try.prog 13 #[v, .int .i64 (k : Int)] w fun e w' => e = .returned (.int .i64 ((k + 8 * es.length : Nat) : Int)) ∧ w'.ownsRow lo 38 8 v es.length (rowsE (mkEs k es.length)) ∧ w.grownBy w' v.ownBlock := by
  by_cases h0 : es = []
  · subst h0
    obtain ⟨a, c, rfl⟩ : ∃ a c, v = .slice a 0 c := by
      rcases hO.2 with ⟨e, _⟩ | ⟨g, cap, cur, e, _⟩
      · exact ⟨_, _, e⟩
      · exact ⟨_, _, e⟩
    have HO : Hid (w.ownsRow lo 38 8 (.slice a 0 c) 0 []) := hO
    clear hO
    go_enter Try.func13, Try.ntmps13
    go_wp2_with fail
    refine wp_loop_rounds 1 ?_
    rw [rounds_succ]
    go_wp2_with fail
    go_ret
    exact ⟨by simp, HO.out, World.grownBy.refl _ _⟩
  · have hpos : 0 < es.length := List.length_pos_iff.2 h0
    obtain ⟨g, cap, rfl, hg, hgl⟩ := World.ownsRow.form hO hpos
    have HO : Hid (w.ownsRow lo 38 8 (.slice (some ⟨g, 0, none⟩) es.length cap) es.length (rowsE es)) := hO
    clear hO h0
    go_enter Try.func13, Try.ntmps13
    go_wp2_with fail
    go_loopw [1, 5] (fun kk i wr => ∃ (j : Nat), j ≤ es.length ∧ i = .int .i64 (j : Int) ∧ kk = .int .i64 ((k + 8 * j : Nat) : Int) ∧ Hid (wr.ownsRow lo 38 8 (.slice (some ⟨g, 0, none⟩) es.length cap) es.length (rowsE (mkEs k j ++ es.drop j))) ∧ Hid (w.grownBy wr (some g))) (fun _ i _ => es.length - (intOf i).toNat)
    case atStart => exact ⟨0, Nat.zero_le _, rfl, by simp, by show World.ownsRow _ _ _ _ _ _ _; simpa [mkEs] using HO.out, World.grownBy.refl _ _⟩
    case round =>
      obtain ⟨j, hj, rfl, rfl, HO0, HG0⟩ := hrel
      by_cases hlt : j < es.length
      · have hlt' : (j : Int) < (es.length : Int) := by omega
        have hlen : (rowsE (mkEs k j ++ es.drop j)).length = 8 * es.length := by rw [rowsE_len, List.length_append, mkEs_len, List.length_drop]; congr 1; omega
        have hdr : es.drop j = es[j] :: es.drop (j + 1) := List.drop_eq_getElem_cons hlt
        obtain ⟨xs, hxs⟩ : ∃ xs, rowsE (mkEs k j ++ es.drop j) = xs := ⟨_, rfl⟩
        rw [hxs] at hlen HO0
        have hfin := rows_set8 (a := mkEs k j) (c := es.drop (j + 1)) (e := es[j]) (n := j * 8) (by rw [mkEs_len]) (mkE k j)
        rw [← hdr, hxs, show mkEs k j ++ mkE k j :: es.drop (j + 1) = mkEs k (j + 1) ++ es.drop (j + 1) by rw [mkEs_succ]; simp] at hfin
        have HLN : Hid (xs.length = 8 * es.length) := hlen
        have HLT : Hid (j < es.length) := hlt
        clear hlen hdr hxs
        obtain ⟨K, hK⟩ : ∃ K, k + 8 * j = K := ⟨_, rfl⟩
        have HK : Hid (k + 8 * j = K) := hK
        have hK1 : K ≤ 40000010 := by omega
        have hK0 : 0 < K := by omega
        rw [hK]
        have HFIN : Hid (((((((((xs.set (j * 8) (.int .i64 (K : Int))).set (j * 8 + 1) (.int .i64 ((K : Int) + 1))).set (j * 8 + 2) (.bool (((K : Int) + 1 + 1) % 3 == 0))).set (j * 8 + 3) (.string (mT (K + 3)))).set (j * 8 + 4) (.string (mT (K + 4)))).set (j * 8 + 5) (.string (mT (K + 5)))).set (j * 8 + 6) (.int .i64 ((K : Int) + 1 + 1 + 1 + 1 + 1 + 1))).set (j * 8 + 7) (.int .i64 ((K : Int) + 1 + 1 + 1 + 1 + 1 + 1 + 1))) = rowsE (mkEs k (j + 1) ++ es.drop (j + 1))) := by
          show _ = _
          rw [← hfin]
          have e1 : (mkE k j).kind = (K : Int) := by rw [← hK]; rfl
          have e2 : (mkE k j).style = (K : Int) + 1 := by rw [← hK]; rfl
          have e3 : (mkE k j).flag = (((K : Int) + 1 + 1) % 3 == 0) := by
            rw [← hK]
            show ((k + 8 * j + 2) % 3 == 0) = _
            rw [Bool.eq_iff_iff]
            simp
            omega
          have e4 : (mkE k j).text = mT (K + 3) := by rw [← hK]; rfl
          have e5 : (mkE k j).anchor = mT (K + 4) := by rw [← hK]; rfl
          have e6 : (mkE k j).tag = mT (K + 5) := by rw [← hK]; rfl
          have e7 : (mkE k j).at_ = (K : Int) + 1 + 1 + 1 + 1 + 1 + 1 := by rw [← hK]; show ((k + 8 * j + 6 : Nat) : Int) = _; omega
          have e8 : (mkE k j).code = (K : Int) + 1 + 1 + 1 + 1 + 1 + 1 + 1 := by rw [← hK]; show ((k + 8 * j + 7 : Nat) : Int) = _; omega
          rw [e1, e2, e3, e4, e5, e6, e7, e8]
        clear hfin
        have c3 : Hid (∀ (q : Int) (_ : q = ((K + 3 : Nat) : Int)) (w' : World), Calls Try.prog 28 #[.int .i64 q] w' fun e w'' => e = .returned (.string (mT (K + 3))) ∧ Below w'.heap.size w' w'') := fun q hq w' => by rw [hq]; exact markText_any (K + 3) w' (by omega) (by omega)
        have c4 : Hid (∀ (q : Int) (_ : q = ((K + 4 : Nat) : Int)) (w' : World), Calls Try.prog 28 #[.int .i64 q] w' fun e w'' => e = .returned (.string (mT (K + 4))) ∧ Below w'.heap.size w' w'') := fun q hq w' => by rw [hq]; exact markText_any (K + 4) w' (by omega) (by omega)
        have c5 : Hid (∀ (q : Int) (_ : q = ((K + 5 : Nat) : Int)) (w' : World), Calls Try.prog 28 #[.int .i64 q] w' fun e w'' => e = .returned (.string (mT (K + 5))) ∧ Below w'.heap.size w' w'') := fun q hq w' => by rw [hq]; exact markText_any (K + 5) w' (by omega) (by omega)
        obtain ⟨⟨z0, hz0⟩, hf0⟩ := row_cell HO0.out (j * 8) (by (try simp only [List.length_set]); have h1 := HLN.out; have h2 := HLT.out; omega)
        obtain ⟨⟨z1, hz1⟩, hf1⟩ := row_cell HO0.out (j * 8 + 1) (by (try simp only [List.length_set]); have h1 := HLN.out; have h2 := HLT.out; omega)
        obtain ⟨⟨z2, hz2⟩, hf2⟩ := row_cell HO0.out (j * 8 + 2) (by (try simp only [List.length_set]); have h1 := HLN.out; have h2 := HLT.out; omega)
        clear hK k0 k1 hj
        go_wp2_with fail
        refine (c3.out _ (by omega) _).mono ?_
        rintro e9 w1 ⟨rfl, hb9⟩
        have HO1 : Hid (w1.ownsRow lo 38 8 (.slice (some ⟨g, 0, none⟩) es.length cap) es.length (((xs.set (j * 8) (.int .i64 (K : Int))).set (j * 8 + 1) (.int .i64 ((K : Int) + 1))).set (j * 8 + 2) (.bool (((K : Int) + 1 + 1) % 3 == 0)))) := row_below (own_setE (own_setE (own_setE HO0.out (j * 8) (.int .i64 (K : Int)) (by (try simp only [List.length_set]); have h1 := HLN.out; have h2 := HLT.out; omega)) (j * 8 + 1) (.int .i64 ((K : Int) + 1)) (by (try simp only [List.length_set]); have h1 := HLN.out; have h2 := HLT.out; omega)) (j * 8 + 2) (.bool (((K : Int) + 1 + 1) % 3 == 0)) (by (try simp only [List.length_set]); have h1 := HLN.out; have h2 := HLT.out; omega)) hb9
        have HG1 : Hid (w.grownBy w1 (some g)) := grownBy_below (grownBy_setB (grownBy_setB (grownBy_setB HG0.out _ _) _ _) _ _) hb9
        clear hb9 HO0 HG0 hz0 hf0 hz1 hf1 hz2 hf2
        obtain ⟨⟨z3, hz3⟩, hf3⟩ := row_cell HO1.out (j * 8 + 3) (by (try simp only [List.length_set]); have h1 := HLN.out; have h2 := HLT.out; omega)
        go_wp2_with fail
        refine (c4.out _ (by omega) _).mono ?_
        rintro e9 w2 ⟨rfl, hb9⟩
        have HO2 : Hid (w2.ownsRow lo 38 8 (.slice (some ⟨g, 0, none⟩) es.length cap) es.length ((((xs.set (j * 8) (.int .i64 (K : Int))).set (j * 8 + 1) (.int .i64 ((K : Int) + 1))).set (j * 8 + 2) (.bool (((K : Int) + 1 + 1) % 3 == 0))).set (j * 8 + 3) (.string (mT (K + 3))))) := row_below (own_setE HO1.out (j * 8 + 3) (.string (mT (K + 3))) (by (try simp only [List.length_set]); have h1 := HLN.out; have h2 := HLT.out; omega)) hb9
        have HG2 : Hid (w.grownBy w2 (some g)) := grownBy_below (grownBy_setB HG1.out _ _) hb9
        clear hb9 HO1 HG1 hz3 hf3
        obtain ⟨⟨z4, hz4⟩, hf4⟩ := row_cell HO2.out (j * 8 + 4) (by (try simp only [List.length_set]); have h1 := HLN.out; have h2 := HLT.out; omega)
        go_wp2_with fail
        refine (c5.out _ (by omega) _).mono ?_
        rintro e9 w3 ⟨rfl, hb9⟩
        have HO3 : Hid (w3.ownsRow lo 38 8 (.slice (some ⟨g, 0, none⟩) es.length cap) es.length (((((xs.set (j * 8) (.int .i64 (K : Int))).set (j * 8 + 1) (.int .i64 ((K : Int) + 1))).set (j * 8 + 2) (.bool (((K : Int) + 1 + 1) % 3 == 0))).set (j * 8 + 3) (.string (mT (K + 3)))).set (j * 8 + 4) (.string (mT (K + 4))))) := row_below (own_setE HO2.out (j * 8 + 4) (.string (mT (K + 4))) (by (try simp only [List.length_set]); have h1 := HLN.out; have h2 := HLT.out; omega)) hb9
        have HG3 : Hid (w.grownBy w3 (some g)) := grownBy_below (grownBy_setB HG2.out _ _) hb9
        clear hb9 HO2 HG2 hz4 hf4
        obtain ⟨⟨z5, hz5⟩, hf5⟩ := row_cell HO3.out (j * 8 + 5) (by (try simp only [List.length_set]); have h1 := HLN.out; have h2 := HLT.out; omega)
        obtain ⟨⟨z6, hz6⟩, hf6⟩ := row_cell HO3.out (j * 8 + 6) (by (try simp only [List.length_set]); have h1 := HLN.out; have h2 := HLT.out; omega)
        obtain ⟨⟨z7, hz7⟩, hf7⟩ := row_cell HO3.out (j * 8 + 7) (by (try simp only [List.length_set]); have h1 := HLN.out; have h2 := HLT.out; omega)
        go_wp2_with fail
        have HO4 := (own_setE (own_setE (own_setE HO3.out (j * 8 + 5) (.string (mT (K + 5))) (by (try simp only [List.length_set]); have h1 := HLN.out; have h2 := HLT.out; omega)) (j * 8 + 6) (.int .i64 ((K : Int) + 1 + 1 + 1 + 1 + 1 + 1)) (by (try simp only [List.length_set]); have h1 := HLN.out; have h2 := HLT.out; omega)) (j * 8 + 7) (.int .i64 ((K : Int) + 1 + 1 + 1 + 1 + 1 + 1 + 1)) (by (try simp only [List.length_set]); have h1 := HLN.out; have h2 := HLT.out; omega))
        rw [HFIN.out] at HO4
        have HG4 := grownBy_setB (grownBy_setB (grownBy_setB HG3.out (j * 8 + 5) (.string (mT (K + 5)))) (j * 8 + 6) (.int .i64 ((K : Int) + 1 + 1 + 1 + 1 + 1 + 1))) (j * 8 + 7) (.int .i64 ((K : Int) + 1 + 1 + 1 + 1 + 1 + 1 + 1))
        have HQ4 : Hid (_ ∧ _) := ⟨HO4, HG4⟩
        clear HO4 HG4 HO3 HG3 hz5 hf5 hz6 hf6 hz7 hf7
        go_roundw
        case rel => exact ⟨j + 1, hlt, by go_num, by congr 1; have := HK.out; omega, HQ4.out.1, HQ4.out.2⟩
        case measure => simp [intOf]; omega
      · go_wp2_with fail
        go_ret
        have ej : j = es.length := by omega
        have := HO0.out
        rw [ej, List.drop_length, List.append_nil] at this
        exact ⟨by rw [ej]; rfl, this, HG0.out⟩
end Go.Proofs.Ytmbbmibkjnlkkaa
/- Seg: plain, and how it and lists of it lie. -/
namespace Go.Proofs.Ytmbbmibkjnlkkaa
open Go.RowKit
structure Sg where
  kind : Int
  n : Int
  text : ByteArray
def Sg.row (s : Sg) : Array Value := #[.int .i64 s.kind, .int .i64 s.n, .string s.text]
/-- A list of them, as it lies. -/
def SgL (w : World) (v : Value) (es : List Sg) : Prop :=
  (es = [] ∧ ∃ a c, v = .slice a 0 c) ∨
  (es ≠ [] ∧ ∃ b off c, v = .slice (some ⟨b, off, none⟩) es.length c ∧ b < w.heap.size ∧ es.length ≤ c ∧ ∀ i e, es[i]? = some e → ∀ j u, e.row[j]? = some u → w.cell? ⟨b, off + i * 3 + j, none⟩ = some u)
theorem SgL.stays {w w' : World} {v : Value} {es : List Sg} (h : SgL w v es) (hb : Below w.heap.size w w') : SgL w' v es := by
  rcases h with h | ⟨h, b, off, c, e, hlt, hc, hh⟩
  · exact .inl h
  · exact .inr ⟨h, b, off, c, e, Nat.lt_of_lt_of_le hlt hb.size, hc, fun i p hi j u hu => by rw [hb.cell hlt]; exact hh i p hi j u hu⟩
theorem SgL.sl {w : World} {v : Value} {es : List Sg} (h : SgL w v es) : ∃ a c, v = .slice a es.length c := by
  rcases h with ⟨rfl, a, c, rfl⟩ | ⟨_, b, off, c, rfl, _⟩
  · exact ⟨a, c, rfl⟩
  · exact ⟨_, c, rfl⟩
structure SgAt (w : World) (b o : Nat) (s : Sg) : Prop where
  c0 : w.cell? ⟨b, o, none⟩ = some (.int .i64 s.kind)
  c1 : w.cell? ⟨b, o + 1, none⟩ = some (.int .i64 s.n)
  c2 : w.cell? ⟨b, o + 2, none⟩ = some (.string s.text)
theorem SgL.at {w wr : World} {a : Option Addr} {c : Nat} {es : List Sg} (h : SgL w (.slice a es.length c) es) (hb : Below w.heap.size w wr) {k : Nat} {e : Sg} (hx : es[k]? = some e) :
    ∃ b off, a = some ⟨b, off, none⟩ ∧ b < w.heap.size ∧ SgAt wr b (off + k * 3) e := by
  rcases h with ⟨e1, _⟩ | ⟨_, b, off, _, e1, hbl, _, hcell⟩
  · rw [e1] at hx; simp at hx
  · injection e1 with e1
    refine ⟨b, off, e1, hbl, ?_⟩
    have hc : ∀ j u, e.row[j]? = some u → wr.cell? ⟨b, off + k * 3 + j, none⟩ = some u := fun j u hu => by rw [hb.cell hbl]; exact hcell k e hx j u hu
    exact ⟨hc 0 _ rfl, hc 1 _ rfl, hc 2 _ rfl⟩
theorem row_atP {w : World} {b : Nat} {t : TypeId} {x0 x1 x2 : Value} (h : w.heap[b]? = some (.cells #[x0, x1, x2] t (0, 0))) :
    w.cell? ⟨b, 0, none⟩ = some x0 ∧ w.cell? ⟨b, 1, none⟩ = some x1 ∧ w.cell? ⟨b, 2, none⟩ = some x2 := by
  simp [World.cell?, h]
def Sg.tot (s : Sg) : Nat := s.text.size
def totP : List Sg → Nat
  | [] => 0
  | e :: t => e.tot + totP t
theorem totP_app : ∀ (a b : List Sg), totP (a ++ b) = totP a + totP b
  | [], b => by simp [totP]
  | h :: t, b => by have := totP_app t b; simp only [List.cons_append, totP, this]; omega
theorem totP_take {es : List Sg} {k : Nat} {e : Sg} (h : es[k]? = some e) : totP (es.take (k + 1)) = totP (es.take k) + e.tot := by
  rw [List.take_add_one, h, totP_app]
  simp [totP]
theorem totP_mem : ∀ {es : List Sg} {e : Sg}, e ∈ es → e.tot ≤ totP es
  | x :: t, h, e => by
    rcases List.mem_cons.1 e with rfl | e
    · simp only [totP]; omega
    · have := totP_mem e
      simp only [totP]; omega
def wideP (s : Sg) : Prop := s.text.size ≤ 9223372036854775807
def wfP (s : Sg) : Prop := (Lit.int .i64 s.kind).wf = true ∧ (Lit.int .i64 s.n).wf = true
end Go.Proofs.Ytmbbmibkjnlkkaa
/- Seg that came in: how large it is, a copy of it; lists of it. -/
namespace Go.Proofs.Ytmbbmibkjnlkkaa
open Go.ChangeShapes Go.WideShapes Go.ChangeAt Go.RowKit Go.Deep Go.BigFrame
def szP (s : Sg) (l : Int) : Int := if l - s.text.size < 0 then -1 else l - s.text.size
theorem szP_cases (s : Sg) (l : Int) : szP s l = -1 ∨ (szP s l = l - s.text.size ∧ 0 ≤ l - s.text.size) := by
  unfold szP
  split
  · exact .inl rfl
  · exact .inr ⟨rfl, by omega⟩
def SzPs (es : List Sg) (w : World) (e : Ending) (w' : World) : Prop :=
  (∃ r : Int, e = .returned (.int .i64 r) ∧ (r = -1 ∨ (0 ≤ r ∧ totP es + es.length ≤ 1048576))) ∧ Below w.heap.size w w'
/-- The cells of a list of events. -/
def cellsP (es : List Sg) : List Value := es.flatMap (fun e => e.row.toList)
theorem cellsP_len : ∀ es : List Sg, (cellsP es).length = es.length * 3
  | [] => rfl
  | h :: t => by
    have := cellsP_len t
    have h8 : h.row.toList.length = 3 := rfl
    unfold cellsP at *
    simp only [List.flatMap_cons, List.length_append, List.length_cons, this, h8]
    omega
theorem cellsP_at : ∀ {es : List Sg} {i : Nat} {e : Sg}, es[i]? = some e → ∀ j u, e.row[j]? = some u → (cellsP es)[i * 3 + j]? = some u
  | [], i, h, e => by simp at e
  | x :: t, 0, h, e => by
    obtain rfl : x = h := by simpa using e
    intro j u hu
    have hj : j < 3 := (Array.getElem?_eq_some_iff.1 hu).1
    show (x.row.toList ++ cellsP t)[0 * 3 + j]? = some u
    rw [List.getElem?_append_left (by show 0 * 3 + j < 3; omega)]
    simpa using hu
  | x :: t, i + 1, h, e => by
    intro j u hu
    have := cellsP_at (es := t) (i := i) (e := h) (by simpa using e) j u hu
    show (x.row.toList ++ cellsP t)[(i + 1) * 3 + j]? = some u
    have h8 : x.row.toList.length = 3 := rfl
    rw [List.getElem?_append_right (by rw [h8]; omega), h8, show (i + 1) * 3 + j - 3 = i * 3 + j by omega]
    exact this
theorem cellsP_snoc (rs : List Sg) (h : Sg) : cellsP (rs ++ [h]) = cellsP rs ++ h.row.toList := by simp [cellsP]
def zrowP : Array Value := #[.int .i64 0, .int .i64 0, .string ByteArray.empty]
def zPz (j : Nat) : Value := zrowP[j % 3]!
theorem cellsP_step {rs : List Sg} {k : Nat} (hk : rs.length = k) (h : Sg) (j : Nat) :
    (if j = k * 3 + 2 then Value.string h.text else if j = k * 3 + 1 then Value.int .i64 h.n else if j = k * 3 then Value.int .i64 h.kind else (cellsP rs)[j]?.getD (zPz j)) = (cellsP (rs ++ [h]))[j]?.getD (zPz j) := by
  have hl := cellsP_len rs
  rw [cellsP_snoc, List.getElem?_append]
  by_cases h1 : j < (cellsP rs).length
  · rw [if_pos h1]
    repeat rw [if_neg (by omega)]
  · rw [if_neg h1]
    by_cases h9 : j < k * 3 + 3
    · obtain ⟨d, hd, hd8⟩ : ∃ d, j = k * 3 + d ∧ d < 3 := ⟨j - k * 3, by omega, by omega⟩
      have e : j - (cellsP rs).length = d := by omega
      rw [e]
      subst hd
      clear e h1 h9 hl
      rcases (show d = 0 ∨ d = 1 ∨ d = 2 by omega) with rfl | rfl | rfl
      all_goals
        (repeat (first | rw [if_pos (by omega)] | rw [if_neg (by omega)]))
        rfl
    · repeat rw [if_neg (by omega)]
      rw [List.getElem?_eq_none (l := cellsP rs) (by omega), List.getElem?_eq_none (l := h.row.toList) (by show 3 ≤ _; omega)]
theorem infoPz : (Try.prog.info? 54).map (fun i => (i.zero, i.size, i.bytes)) = some (some (.agg zrowP), 3, 32) := by kernel_rfl
theorem infoPz_parts : ∃ ti, Try.prog.info? 54 = some ti ∧ ti.zero = some (.agg zrowP) ∧ ti.size = 3 ∧ ti.bytes = 32 := by
  have h := infoPz
  cases e : Try.prog.info? 54 with
  | none => rw [e] at h; cases h
  | some ti =>
    rw [e] at h
    simp at h
    exact ⟨ti, rfl, h.1, h.2.1, h.2.2⟩
end Go.Proofs.Ytmbbmibkjnlkkaa
