/- Several texts in one: Evl Pnt Pne Pns Pnr. -/
import Derived.Test.YtkdlakcmhdiojaaZqaa
import Derived.WalkKit
import Derived.ProofKit
import Derived.Below
/- Lists of events, as they lie. -/
namespace Go.Proofs.Ytkdlakcmhdiojaa
open Go.RowKit
/-- A list of events, as it lies. -/
def SlE (w : World) (v : Value) (es : List Ev) : Prop :=
  (es = [] ∧ ∃ a c, v = .slice a 0 c) ∨
  (es ≠ [] ∧ ∃ b off c, v = .slice (some ⟨b, off, none⟩) es.length c ∧ b < w.heap.size ∧ es.length ≤ c ∧ ∀ i e, es[i]? = some e → ∀ j u, e.row[j]? = some u → w.cell? ⟨b, off + i * 8 + j, none⟩ = some u)
theorem SlE.stays {w w' : World} {v : Value} {es : List Ev} (h : SlE w v es) (hb : Below w.heap.size w w') : SlE w' v es := by
  rcases h with h | ⟨h, b, off, c, e, hlt, hc, hh⟩
  · exact .inl h
  · exact .inr ⟨h, b, off, c, e, Nat.lt_of_lt_of_le hlt hb.size, hc, fun i p hi j u hu => by rw [hb.cell hlt]; exact hh i p hi j u hu⟩
theorem SlE.sl {w : World} {v : Value} {es : List Ev} (h : SlE w v es) : ∃ a c, v = .slice a es.length c := by
  rcases h with ⟨rfl, a, c, rfl⟩ | ⟨_, b, off, c, rfl, _⟩
  · exact ⟨a, c, rfl⟩
  · exact ⟨_, c, rfl⟩
/-- The cells of the element k. -/
structure EvAt (w : World) (b o : Nat) (e : Ev) : Prop where
  c0 : w.cell? ⟨b, o, none⟩ = some (.int .i64 e.kind)
  c1 : w.cell? ⟨b, o + 1, none⟩ = some (.int .i64 e.style)
  c2 : w.cell? ⟨b, o + 2, none⟩ = some (.bool e.flag)
  c3 : w.cell? ⟨b, o + 3, none⟩ = some (.string e.text)
  c4 : w.cell? ⟨b, o + 4, none⟩ = some (.string e.anchor)
  c5 : w.cell? ⟨b, o + 5, none⟩ = some (.string e.tag)
  c6 : w.cell? ⟨b, o + 6, none⟩ = some (.int .i64 e.at_)
  c7 : w.cell? ⟨b, o + 7, none⟩ = some (.int .i64 e.code)
theorem SlE.at {w wr : World} {a : Option Addr} {c : Nat} {es : List Ev} (h : SlE w (.slice a es.length c) es) (hb : Below w.heap.size w wr) {k : Nat} {e : Ev} (hx : es[k]? = some e) :
    ∃ b off, a = some ⟨b, off, none⟩ ∧ b < w.heap.size ∧ EvAt wr b (off + k * 8) e := by
  rcases h with ⟨e1, _⟩ | ⟨_, b, off, _, e1, hbl, _, hcell⟩
  · rw [e1] at hx; simp at hx
  · injection e1 with e1
    refine ⟨b, off, e1, hbl, ?_⟩
    have hc : ∀ j u, e.row[j]? = some u → wr.cell? ⟨b, off + k * 8 + j, none⟩ = some u := fun j u hu => by rw [hb.cell hbl]; exact hcell k e hx j u hu
    exact ⟨hc 0 _ rfl, hc 1 _ rfl, hc 2 _ rfl, hc 3 _ rfl, hc 4 _ rfl, hc 5 _ rfl, hc 6 _ rfl, hc 7 _ rfl⟩
theorem ev_at {w : World} {b : Nat} {t : TypeId} {x0 x1 x2 x3 x4 x5 x6 x7 : Value} (h : w.heap[b]? = some (.cells #[x0, x1, x2, x3, x4, x5, x6, x7] t (0, 0))) :
    w.cell? ⟨b, 0, none⟩ = some x0 ∧ w.cell? ⟨b, 1, none⟩ = some x1 ∧ w.cell? ⟨b, 2, none⟩ = some x2 ∧ w.cell? ⟨b, 3, none⟩ = some x3 ∧ w.cell? ⟨b, 4, none⟩ = some x4 ∧ w.cell? ⟨b, 5, none⟩ = some x5 ∧ w.cell? ⟨b, 6, none⟩ = some x6 ∧ w.cell? ⟨b, 7, none⟩ = some x7 := by
  simp [World.cell?, h]
/-- The sizes of the texts of an event, and of all of a list. -/
def Ev.tot (e : Ev) : Nat := e.text.size + e.anchor.size + e.tag.size
def totE : List Ev → Nat
  | [] => 0
  | e :: t => e.tot + totE t
theorem totE_app : ∀ (a b : List Ev), totE (a ++ b) = totE a + totE b
  | [], b => by simp [totE]
  | h :: t, b => by have := totE_app t b; simp only [List.cons_append, totE, this]; omega
theorem totE_take {es : List Ev} {k : Nat} {e : Ev} (h : es[k]? = some e) : totE (es.take (k + 1)) = totE (es.take k) + e.tot := by
  rw [List.take_add_one, h, totE_app]
  simp [totE]
theorem totE_mem : ∀ {es : List Ev} {e : Ev}, e ∈ es → e.tot ≤ totE es
  | x :: t, h, e => by
    rcases List.mem_cons.1 e with rfl | e
    · simp only [totE]; omega
    · have := totE_mem e
      simp only [totE]; omega
def wideE (e : Ev) : Prop := e.text.size ≤ 9223372036854775807 ∧ e.anchor.size ≤ 9223372036854775807 ∧ e.tag.size ≤ 9223372036854775807
def wideEs (es : List Ev) : Prop := ∀ e ∈ es, wideE e
end Go.Proofs.Ytkdlakcmhdiojaa
/- What Nested answers, as a plain function. -/
namespace Go.Proofs.Ytkdlakcmhdiojaa
/-- One node more in what is open: a list (-1) stays as it is. -/
def stI (x : Int) : Int := if 0 ≤ x then x + 1 else x
def pushK (k : Int) (st : List Int) : List Int := if k = 3 then (-1) :: st else if k = 4 then 0 :: st else st
def nst : Bool → Int → List Int → List Ev → Bool
  | _, _, _, [] => false
  | first, doc, st, e :: t =>
    if evOk e = false then false
    else if (first != (e.kind == 1)) = true then false
    else if e.kind = 10 then t.isEmpty
    else if e.kind = 2 then (if doc = 0 then nst false 1 st t else false)
    else if 3 ≤ e.kind ∧ e.kind ≤ 6 then
      (if st = [] then (if doc = 1 then nst false 2 (pushK e.kind []) t else false) else nst false doc (pushK e.kind (stI (st.headD 0) :: st.tail)) t)
    else if e.kind = 7 then
      (if st = [] then false else if 0 < st.headD 0 ∧ st.headD 0 % 2 = 1 then false else nst false doc st.tail t)
    else if e.kind = 8 then (if doc = 2 ∧ st = [] then nst false 0 [] t else false)
    else if e.kind = 9 then t.isEmpty && decide (doc = 0)
    else nst false doc st t
def nested (es : List Ev) : Bool := nst true 0 [] es
section
variable {first : Bool} {doc : Int} {st : List Int} {e : Ev} {t : List Ev} {b : Bool}
theorem nst_bad (h : nst first doc st (e :: t) = b) (h1 : evOk e = false) : false = b := by rw [nst, if_pos h1] at h; exact h
theorem nst_first (h : nst first doc st (e :: t) = b) (h1 : evOk e = true) (h2 : (first != (e.kind == 1)) = true) : false = b := by rw [nst, if_neg (show ¬ evOk e = false by rw [h1]; simp), if_pos h2] at h; exact h
theorem nst_in (h : nst first doc st (e :: t) = b) (h1 : evOk e = true) (h2 : (first != (e.kind == 1)) = false) : (if e.kind = 10 then t.isEmpty
    else if e.kind = 2 then (if doc = 0 then nst false 1 st t else false)
    else if 3 ≤ e.kind ∧ e.kind ≤ 6 then
      (if st = [] then (if doc = 1 then nst false 2 (pushK e.kind []) t else false) else nst false doc (pushK e.kind (stI (st.headD 0) :: st.tail)) t)
    else if e.kind = 7 then
      (if st = [] then false else if 0 < st.headD 0 ∧ st.headD 0 % 2 = 1 then false else nst false doc st.tail t)
    else if e.kind = 8 then (if doc = 2 ∧ st = [] then nst false 0 [] t else false)
    else if e.kind = 9 then t.isEmpty && decide (doc = 0)
    else nst false doc st t) = b := by
  rw [nst, if_neg (show ¬ evOk e = false by rw [h1]; simp), if_neg (show ¬ (first != (e.kind == 1)) = true by rw [h2]; simp)] at h
  exact h
end
theorem evOk_kind {e : Ev} (h : evOk e = true) : 1 ≤ e.kind ∧ e.kind ≤ 10 := by
  unfold evOk at h
  split at h
  · cases h
  · rename_i h1
    exact ⟨by omega, by omega⟩
end Go.Proofs.Ytkdlakcmhdiojaa
/- Nodes within events, as plain functions: where a node ends. -/
namespace Go.Proofs.Ytkdlakcmhdiojaa
open Go.RowKit
def colE (e : Ev) : Bool := decide (e.kind = 3) || decide (e.kind = 4)
def nodE (e : Ev) : Bool := decide (3 ≤ e.kind) && decide (e.kind ≤ 6)
def opn (e : Ev) (o : Int) : Int := if colE e = true then o + 1 else if e.kind = 7 then o - 1 else o
def endG : List Ev → Nat → Int → Int
  | [], _, _ => -1
  | e :: t, k, o => if opn e o = 0 then (k : Int) else endG t (k + 1) (opn e o)
/-- Where the node i ends. -/
def endN (l : List Ev) (i : Nat) : Int := match l[i]? with
  | none => -1
  | some e => if nodE e = false then -1 else endG (l.drop i) i 0
def endOf (l : List Ev) (i : Int) : Int := if nested l = false ∨ i < 0 ∨ (l.length : Int) ≤ i then -1 else endN l i.toNat
theorem endG_le : ∀ (l : List Ev) (k : Nat) (o : Int), endG l k o = -1 ∨ ((k : Int) ≤ endG l k o ∧ endG l k o < (k : Int) + l.length)
  | [], k, o => .inl rfl
  | e :: t, k, o => by
    rw [endG]
    split
    · right
      simp
      omega
    · rcases endG_le t (k + 1) (opn e o) with h | h
      · exact .inl h
      · right
        simp at h ⊢
        omega
theorem endN_le (l : List Ev) (i : Nat) (hi : i ≤ l.length) : endN l i = -1 ∨ ((i : Int) ≤ endN l i ∧ endN l i < l.length) := by
  unfold endN
  split
  · exact .inl rfl
  · split
    · exact .inl rfl
    · rcases endG_le (l.drop i) i 0 with h | h
      · exact .inl h
      · right
        rw [List.length_drop] at h
        omega
theorem drop_ev {l : List Ev} {k : Nat} {e : Ev} (h : l[k]? = some e) : l.drop k = e :: l.drop (k + 1) := by
  have hlt : k < l.length := (List.getElem?_eq_some_iff.1 h).1
  rw [List.drop_eq_getElem_cons hlt]
  congr 1
  exact (List.getElem?_eq_some_iff.1 h).2
/-- The collection around: back from k. -/
def upG (l : List Ev) : Nat → Int → Int
  | 0, _ => -1
  | k + 1, o => match l[k]? with
    | none => -1
    | some e => if e.kind = 7 then upG l k (o + 1) else if colE e = true then (if o = 0 then (k : Int) else upG l k (o - 1)) else upG l k o
def upOf (l : List Ev) (i : Int) : Int := if nested l = false ∨ i < 0 ∨ (l.length : Int) ≤ i then -1 else upG l i.toNat 0
def namE (e : Ev) (x : ByteArray) : Bool := nodE e && (!noB e.anchor && decide (e.anchor = x))
/-- The node of an alias: back from k. -/
def defG (l : List Ev) (i : Nat) (x : ByteArray) : Nat → Int
  | 0 => -1
  | k + 1 => match l[k]? with
    | none => -1
    | some e => if e.kind = 2 then -1 else if namE e x = true then (if endN l k < 0 ∨ (i : Int) < endN l k then -1 else (k : Int)) else defG l i x k
def defN (l : List Ev) (i : Nat) : Int := match l[i]? with
  | none => -1
  | some e => defG l i e.text i
def kindAt (l : List Ev) (i : Nat) : Int := match l[i]? with
  | none => 0
  | some e => e.kind
def defOf (l : List Ev) (i : Int) : Int := if nested l = false ∨ i < 0 ∨ (l.length : Int) ≤ i ∨ kindAt l i.toNat ≠ 6 then -1 else defN l i.toNat
/-- The nodes of a collection, from k on. -/
def kidG (l : List Ev) : Nat → Nat → List Nat → List Nat
  | 0, _, acc => acc
  | f + 1, k, acc => match l[k]? with
    | none => acc
    | some e => if nodE e = false then acc else if endN l k < 0 then acc ++ [k] else kidG l f ((endN l k).toNat + 1) (acc ++ [k])
def kidN (l : List Ev) (i : Nat) : List Nat := match l[i]? with
  | none => []
  | some e => if colE e = false then [] else kidG l (l.length + 1) (i + 1) []
def kidsOfE (l : List Ev) (i : Int) : List Nat := if nested l = false ∨ i < 0 ∨ (l.length : Int) ≤ i then [] else kidN l i.toNat
def rootAt (l : List Ev) (n : Bool) (i : Nat) : Bool := decide (0 < i) && (decide (kindAt l (i - 1) = 2) && ((match l[i]? with | none => false | some e => nodE e) && n))
def rootsTo (l : List Ev) (k : Nat) : List Nat := (List.range k).filter (rootAt l (nested l))
def rootsOf (l : List Ev) : List Nat := rootsTo l l.length
def tiedAt (l : List Ev) (i : Nat) : Bool := !(decide (kindAt l i = 6)) || decide (0 ≤ defN l i)
def tiedTo (l : List Ev) (k : Nat) : Bool := (List.range k).all (tiedAt l)
def tied (l : List Ev) : Bool := nested l && tiedTo l l.length
def whole (l : List Ev) : Bool := tied l && decide (kindAt l (l.length - 1) ≠ 10)
end Go.Proofs.Ytkdlakcmhdiojaa
/- Nodes within events: what is open at a place, where a node ends, and what stands around it. -/
namespace Go.Proofs.Ytkdlakcmhdiojaa
open Go.RowKit
/-- The collections that are open ahead of the place k, the innermost first. -/
def stk (l : List Ev) : Nat → List Nat
  | 0 => []
  | k + 1 => match l[k]? with
    | none => stk l k
    | some e => if colE e = true then k :: stk l k else if e.kind = 7 then (stk l k).tail else stk l k
def headI (s : List Nat) : Int := match s with
  | [] => -1
  | a :: _ => (a : Int)
theorem stk_col {l : List Ev} {k : Nat} {e : Ev} (h : l[k]? = some e) (hc : colE e = true) : stk l (k + 1) = k :: stk l k := by
  rw [stk, h]; simp [hc]
theorem col_not7 {e : Ev} (hc : colE e = true) : e.kind ≠ 7 := by
  unfold colE at hc
  simp at hc
  omega
theorem stk_end {l : List Ev} {k : Nat} {e : Ev} (h : l[k]? = some e) (h7 : e.kind = 7) : stk l (k + 1) = (stk l k).tail := by
  have hc : colE e = false := by
    cases h' : colE e
    · rfl
    · exact absurd h7 (col_not7 h')
  rw [stk, h]; simp [hc, h7]
theorem stk_else {l : List Ev} {k : Nat} {e : Ev} (h : l[k]? = some e) (hc : colE e = false) (h7 : e.kind ≠ 7) : stk l (k + 1) = stk l k := by
  rw [stk, h]; simp [hc, h7]
theorem stk_lt (l : List Ev) : ∀ (k : Nat), ∀ j ∈ stk l k, j < k
  | 0 => by intro j hj; simp [stk] at hj
  | k + 1 => by
    intro j hj
    have ih := stk_lt l k
    rw [stk] at hj
    split at hj
    · exact Nat.lt_succ_of_lt (ih j hj)
    · split at hj
      · rcases List.mem_cons.1 hj with rfl | h
        · exact Nat.lt_succ_self _
        · exact Nat.lt_succ_of_lt (ih j h)
      · split at hj
        · exact Nat.lt_succ_of_lt (ih j (List.mem_of_mem_tail hj))
        · exact Nat.lt_succ_of_lt (ih j hj)
theorem stk_down (l : List Ev) : ∀ (k : Nat), (stk l k).Pairwise (fun a b => b < a)
  | 0 => by simp [stk]
  | k + 1 => by
    have ih := stk_down l k
    rw [stk]
    split
    · exact ih
    · split
      · rw [List.pairwise_cons]
        exact ⟨fun a ha => stk_lt l k a ha, ih⟩
      · split
        · exact ih.tail
        · exact ih
theorem stk_is (l : List Ev) : ∀ (k : Nat), ∀ j ∈ stk l k, ∃ e, l[j]? = some e ∧ colE e = true
  | 0 => by intro j hj; simp [stk] at hj
  | k + 1 => by
    intro j hj
    have ih := stk_is l k
    rw [stk] at hj
    split at hj
    · exact ih j hj
    · rename_i e he
      split at hj
      · rename_i hc
        rcases List.mem_cons.1 hj with rfl | h
        · exact ⟨e, he, hc⟩
        · exact ih j h
      · split at hj
        · exact ih j (List.mem_of_mem_tail hj)
        · exact ih j hj
/-- What is around is what is open. -/
theorem upG_stk (l : List Ev) : ∀ (k o : Nat), k ≤ l.length → upG l k (o : Int) = headI ((stk l k).drop o)
  | 0, o, _ => by rw [upG]; simp [stk, headI]
  | k + 1, o, hk => by
    obtain ⟨e, he⟩ : ∃ e, l[k]? = some e := ⟨_, List.getElem?_eq_getElem (by omega)⟩
    have ih := fun o => upG_stk l k o (by omega)
    rw [upG, he]
    by_cases h7 : e.kind = 7
    · have := ih (o + 1)
      simp only [h7, if_true]
      rw [stk_end he h7, List.drop_tail, ← this]
      congr 1
    · simp only [if_neg h7]
      by_cases hc : colE e = true
      · simp only [if_pos hc]
        rw [stk_col he hc]
        cases o with
        | zero => simp [headI]
        | succ o =>
          rw [if_neg (by omega), List.drop_succ_cons, ← ih o]
          congr 1
          omega
      · have hc' : colE e = false := by simpa using hc
        simp only [if_neg hc]
        rw [stk_else he hc' h7, ih o]
theorem up_head (l : List Ev) (k : Nat) (hk : k ≤ l.length) : upG l k 0 = headI (stk l k) := by
  have := upG_stk l k 0 hk
  simpa using this
theorem opn_col {e : Ev} {o : Int} (hc : colE e = true) : opn e o = o + 1 := by unfold opn; rw [if_pos hc]
theorem opn_end {e : Ev} {o : Int} (h7 : e.kind = 7) : opn e o = o - 1 := by
  unfold opn
  rw [if_neg (fun hc => col_not7 hc h7), if_pos h7]
theorem opn_else {e : Ev} {o : Int} (hc : colE e = false) (h7 : e.kind ≠ 7) : opn e o = o := by
  unfold opn
  rw [if_neg (by simp [hc]), if_neg h7]
theorem endG_step {l : List Ev} {k : Nat} {e : Ev} {o : Int} (h : l[k]? = some e) : endG (l.drop k) k o = if opn e o = 0 then (k : Int) else endG (l.drop (k + 1)) (k + 1) (opn e o) := by
  rw [drop_ev h, endG]
theorem col_node {e : Ev} (hc : colE e = true) : nodE e = true := by
  unfold colE at hc
  unfold nodE
  simp at hc ⊢
  omega
theorem endN_node {l : List Ev} {k : Nat} {e : Ev} (h : l[k]? = some e) (hn : nodE e = true) : endN l k = endG (l.drop k) k 0 := by
  unfold endN
  rw [h]
  simp [hn]
theorem endN_leaf {l : List Ev} {k : Nat} {e : Ev} (h : l[k]? = some e) (hn : nodE e = true) (hc : colE e = false) : endN l k = (k : Int) := by
  rw [endN_node h hn, endG_step h, if_pos]
  refine opn_else hc ?_
  unfold nodE at hn
  simp at hn
  omega
theorem endN_col {l : List Ev} {k : Nat} {e : Ev} (h : l[k]? = some e) (hc : colE e = true) : endN l k = endG (l.drop (k + 1)) (k + 1) 1 := by
  rw [endN_node h (col_node hc), endG_step h, opn_col hc, if_neg (by omega)]
  rfl
/-- What is open ends where the count says. -/
theorem end_in (l : List Ev) : ∀ (k p j : Nat), k ≤ l.length → (stk l k)[p]? = some j → endN l j = endG (l.drop k) k ((p : Int) + 1) ∧ (stk l k).drop (p + 1) = stk l j
  | 0, p, j, _, h => by simp [stk] at h
  | k + 1, p, j, hk, h => by
    obtain ⟨e, he⟩ : ∃ e, l[k]? = some e := ⟨_, List.getElem?_eq_getElem (by omega)⟩
    have ih := fun p => end_in l k p j (by omega)
    by_cases hc : colE e = true
    · rw [stk_col he hc] at h ⊢
      cases p with
      | zero =>
        simp at h
        subst h
        exact ⟨by rw [endN_col he hc]; rfl, rfl⟩
      | succ p =>
        simp at h
        obtain ⟨i1, i2⟩ := ih p h
        refine ⟨?_, by rw [List.drop_succ_cons]; exact i2⟩
        rw [i1, endG_step he, opn_col hc, if_neg (by omega)]
        congr 1
    · have hc' : colE e = false := by simpa using hc
      by_cases h7 : e.kind = 7
      · rw [stk_end he h7] at h ⊢
        rw [List.getElem?_tail] at h
        obtain ⟨i1, i2⟩ := ih (p + 1) h
        refine ⟨?_, by rw [List.drop_tail]; exact i2⟩
        rw [i1, endG_step he, opn_end h7, if_neg (by omega)]
        congr 1
        omega
      · rw [stk_else he hc' h7] at h ⊢
        obtain ⟨i1, i2⟩ := ih p h
        refine ⟨?_, i2⟩
        rw [i1, endG_step he, opn_else hc' h7, if_neg (by omega)]
/-- What is open no more has ended. -/
theorem end_out (l : List Ev) (j : Nat) {e0 : Ev} (h0 : l[j]? = some e0) (hc0 : colE e0 = true) : ∀ (k : Nat), j < k → k ≤ l.length → j ∉ stk l k → (j : Int) < endN l j ∧ endN l j < k
  | 0, hj, _, _ => by omega
  | k + 1, hj, hk, hn => by
    obtain ⟨e, he⟩ : ∃ e, l[k]? = some e := ⟨_, List.getElem?_eq_getElem (by omega)⟩
    by_cases hjk : j = k
    · subst hjk
      rw [h0] at he
      injection he with he
      subst he
      rw [stk_col h0 hc0] at hn
      simp at hn
    · have hlt : j < k := by omega
      by_cases hm : j ∈ stk l k
      · obtain ⟨p, hp⟩ := List.getElem?_of_mem hm
        obtain ⟨i1, _⟩ := end_in l k p j (by omega) hp
        by_cases hc : colE e = true
        · rw [stk_col he hc] at hn
          exact absurd (List.mem_cons_of_mem _ hm) hn
        · have hc' : colE e = false := by simpa using hc
          by_cases h7 : e.kind = 7
          · rw [stk_end he h7] at hn
            cases p with
            | zero =>
              rw [endG_step he, opn_end h7, if_pos (by simp)] at i1
              omega
            | succ p =>
              rw [← List.getElem?_tail] at hp
              exact absurd (List.mem_of_getElem? hp) hn
          · rw [stk_else he hc' h7] at hn
            exact absurd hm hn
      · have := end_out l j h0 hc0 k hlt (by omega) hm
        omega
/-- What ends at k is what is innermost there, and an end stands there. -/
theorem endN_hit {l : List Ev} {j k : Nat} {e e0 : Ev} (h0 : l[j]? = some e0) (hn : nodE e0 = true) (hjk : j < k) (he : l[k]? = some e) (h : endN l j = (k : Int)) : e.kind = 7 ∧ (stk l k).head? = some j := by
  have hk : k < l.length := (List.getElem?_eq_some_iff.1 he).1
  by_cases hc0 : colE e0 = true
  · by_cases hm : j ∈ stk l k
    · obtain ⟨p, hp⟩ := List.getElem?_of_mem hm
      obtain ⟨i1, _⟩ := end_in l k p j (by omega) hp
      rw [h, endG_step he] at i1
      by_cases hz : opn e ((p : Int) + 1) = 0
      · unfold opn at hz
        split at hz
        · omega
        · split at hz
          · rename_i h7
            have : p = 0 := by omega
            subst this
            exact ⟨h7, by rw [List.head?_eq_getElem?]; exact hp⟩
          · omega
      · rw [if_neg hz] at i1
        rcases endG_le (l.drop (k + 1)) (k + 1) (opn e ((p : Int) + 1)) with h1 | h1
        · rw [h1] at i1; omega
        · rw [← i1] at h1; omega
    · have := end_out l j h0 hc0 k hjk (by omega) hm
      omega
  · have := endN_leaf h0 hn (by simpa using hc0)
    omega
theorem endN_top {l : List Ev} {k j : Nat} {r : List Nat} {e : Ev} (he : l[k]? = some e) (h7 : e.kind = 7) (hs : stk l k = j :: r) : endN l j = (k : Int) := by
  have hk : k < l.length := (List.getElem?_eq_some_iff.1 he).1
  obtain ⟨i1, _⟩ := end_in l k 0 j (by omega) (by rw [hs]; rfl)
  rw [i1, endG_step he, opn_end h7, if_pos (by simp)]
/-- Whether a node is open at k. -/
theorem open_iff {l : List Ev} {j k : Nat} {e0 : Ev} (h0 : l[j]? = some e0) (hn : nodE e0 = true) (hjk : j < k) (hk : k ≤ l.length) : j ∈ stk l k ↔ (endN l j < 0 ∨ (k : Int) ≤ endN l j) := by
  constructor
  · intro hm
    obtain ⟨p, hp⟩ := List.getElem?_of_mem hm
    obtain ⟨i1, _⟩ := end_in l k p j hk hp
    rcases endG_le (l.drop k) k ((p : Int) + 1) with h | h
    · rw [i1, h]; left; omega
    · rw [i1]; right; omega
  · intro h
    apply Classical.byContradiction
    intro hm
    by_cases hc0 : colE e0 = true
    · have := end_out l j h0 hc0 k hjk hk hm
      omega
    · have := endN_leaf h0 hn (by simpa using hc0)
      omega
end Go.Proofs.Ytkdlakcmhdiojaa
/- Nodes within events: the program's spans, step by step, and what a nested list keeps to. -/
namespace Go.Proofs.Ytkdlakcmhdiojaa
open Go.RowKit
/-- A node by its places. -/
structure Sp where
  at_ : Nat
  end_ : Int
  up : Int
def nodB (l : List Ev) (j : Nat) : Bool := match l[j]? with
  | none => false
  | some e => nodE e
def nodesTo (l : List Ev) (k : Nat) : List Nat := (List.range k).filter (nodB l)
/-- The end of j, as far as it is known ahead of k. -/
def endTo (l : List Ev) (k j : Nat) : Int := if 0 ≤ endN l j ∧ endN l j < (k : Int) then endN l j else -1
def spAt (l : List Ev) (k j : Nat) : Sp := ⟨j, endTo l k j, upG l j 0⟩
def spansTo (l : List Ev) (k : Nat) : List Sp := (nodesTo l k).map (spAt l k)
def openAt (l : List Ev) (j : Nat) : Nat := (nodesTo l j).length
def opensTo (l : List Ev) (k : Nat) : List Nat := (stk l k).map (openAt l)
theorem nodB_some {l : List Ev} {j : Nat} {e : Ev} (h : l[j]? = some e) : nodB l j = nodE e := by unfold nodB; rw [h]
theorem nodB_lt {l : List Ev} {j : Nat} (h : nodB l j = true) : ∃ e, l[j]? = some e ∧ nodE e = true := by
  unfold nodB at h
  split at h
  · cases h
  · rename_i e he
    exact ⟨e, he, h⟩
theorem nodesTo_yes {l : List Ev} {k : Nat} (h : nodB l k = true) : nodesTo l (k + 1) = nodesTo l k ++ [k] := by
  simp [nodesTo, List.range_succ, List.filter_append, h]
theorem nodesTo_no {l : List Ev} {k : Nat} (h : nodB l k = false) : nodesTo l (k + 1) = nodesTo l k := by
  simp [nodesTo, List.range_succ, List.filter_append, h]
theorem mem_nodes {l : List Ev} {k j : Nat} : j ∈ nodesTo l k ↔ j < k ∧ nodB l j = true := by
  simp [nodesTo, List.mem_filter]
theorem nodesTo_le (l : List Ev) (k : Nat) : (nodesTo l k).length ≤ k := by
  have := List.length_filter_le (nodB l) (List.range k)
  simpa [nodesTo] using this
theorem endTo_same {l : List Ev} {k j : Nat} {e : Ev} (he : l[k]? = some e) (hj : j < k) (hn : nodB l j = true) (hx : ¬ (e.kind = 7 ∧ (stk l k).head? = some j)) : endTo l (k + 1) j = endTo l k j := by
  obtain ⟨e0, h0, hn0⟩ := nodB_lt hn
  have hne : endN l j ≠ (k : Int) := fun h => hx (endN_hit h0 hn0 hj he h)
  unfold endTo
  by_cases h : 0 ≤ endN l j ∧ endN l j < (k : Int)
  · rw [if_pos h, if_pos ⟨h.1, by omega⟩]
  · rw [if_neg h, if_neg (by omega)]
theorem map_same {l : List Ev} {k : Nat} {e : Ev} (he : l[k]? = some e) (h7 : e.kind ≠ 7) : (nodesTo l k).map (spAt l (k + 1)) = spansTo l k := by
  unfold spansTo
  apply List.map_congr_left
  intro j hj
  obtain ⟨hj1, hj2⟩ := mem_nodes.1 hj
  unfold spAt
  rw [endTo_same he hj1 hj2 (fun h => h7 h.1)]
theorem spans_col {l : List Ev} {k : Nat} {e : Ev} (he : l[k]? = some e) (hc : colE e = true) : spansTo l (k + 1) = spansTo l k ++ [⟨k, -1, headI (stk l k)⟩] := by
  have hk : k < l.length := (List.getElem?_eq_some_iff.1 he).1
  have hn : nodB l k = true := by rw [nodB_some he]; exact col_node hc
  have h1 : endTo l (k + 1) k = -1 := by
    unfold endTo
    rw [if_neg]
    rw [endN_col he hc]
    rcases endG_le (l.drop (k + 1)) (k + 1) 1 with h | h
    · rw [h]; omega
    · omega
  have h2 : spAt l (k + 1) k = ⟨k, -1, headI (stk l k)⟩ := by
    unfold spAt
    rw [h1, up_head l k (by omega)]
  have h3 := map_same he (col_not7 hc)
  unfold spansTo at h3 ⊢
  rw [nodesTo_yes hn, List.map_append, h3, List.map_cons, List.map_nil, h2]
theorem spans_leaf {l : List Ev} {k : Nat} {e : Ev} (he : l[k]? = some e) (hc : e.kind = 5 ∨ e.kind = 6) : spansTo l (k + 1) = spansTo l k ++ [⟨k, (k : Int), headI (stk l k)⟩] := by
  have hk : k < l.length := (List.getElem?_eq_some_iff.1 he).1
  have hne : nodE e = true := by unfold nodE; simp; omega
  have hcf : colE e = false := by unfold colE; simp; omega
  have hn : nodB l k = true := by rw [nodB_some he]; exact hne
  have h1 : endTo l (k + 1) k = (k : Int) := by
    unfold endTo
    rw [endN_leaf he hne hcf, if_pos (by omega)]
  have h2 : spAt l (k + 1) k = ⟨k, (k : Int), headI (stk l k)⟩ := by
    unfold spAt
    rw [h1, up_head l k (by omega)]
  have h3 := map_same he (show e.kind ≠ 7 by omega)
  unfold spansTo at h3 ⊢
  rw [nodesTo_yes hn, List.map_append, h3, List.map_cons, List.map_nil, h2]
theorem spans_else {l : List Ev} {k : Nat} {e : Ev} (he : l[k]? = some e) (hn : nodE e = false) (h7 : e.kind ≠ 7) : spansTo l (k + 1) = spansTo l k := by
  have h3 := map_same he h7
  have hb : nodB l k = false := by rw [nodB_some he]; exact hn
  unfold spansTo at h3 ⊢
  rw [nodesTo_no hb, h3]
theorem nodes_split {l : List Ev} {j : Nat} (hn : nodB l j = true) : ∀ (k : Nat), j < k → ∃ B, nodesTo l k = nodesTo l j ++ j :: B ∧ ∀ x ∈ B, j < x
  | 0, h => by omega
  | k + 1, h => by
    by_cases e : j = k
    · subst e
      exact ⟨[], nodesTo_yes hn, by simp⟩
    · obtain ⟨B, h1, h2⟩ := nodes_split hn k (by omega)
      cases hk : nodB l k
      · exact ⟨B, by rw [nodesTo_no hk, h1], h2⟩
      · refine ⟨B ++ [k], by rw [nodesTo_yes hk, h1]; simp, fun x hx => ?_⟩
        rcases List.mem_append.1 hx with h3 | h3
        · exact h2 x h3
        · simp at h3; omega
theorem spans_end {l : List Ev} {k j : Nat} {r : List Nat} {e : Ev} (he : l[k]? = some e) (h7 : e.kind = 7) (hs : stk l k = j :: r) :
    (spansTo l k)[(nodesTo l j).length]? = some ⟨j, -1, upG l j 0⟩ ∧ spansTo l (k + 1) = (spansTo l k).set (nodesTo l j).length ⟨j, (k : Int), upG l j 0⟩ := by
  have hk : k < l.length := (List.getElem?_eq_some_iff.1 he).1
  have hm : j ∈ stk l k := by rw [hs]; exact List.mem_cons_self
  have hjk := stk_lt l k j hm
  obtain ⟨e0, h0, hc0⟩ := stk_is l k j hm
  have hn : nodB l j = true := by rw [nodB_some h0]; exact col_node hc0
  have hb : nodB l k = false := by rw [nodB_some he]; unfold nodE; simp; omega
  have hE := endN_top he h7 hs
  obtain ⟨B, hB, hgt⟩ := nodes_split hn k hjk
  have e1 : endTo l k j = -1 := by unfold endTo; rw [hE, if_neg (by omega)]
  have e2 : endTo l (k + 1) j = (k : Int) := by unfold endTo; rw [hE, if_pos (by omega)]
  have hsame : ∀ x, x ∈ nodesTo l k → x ≠ j → spAt l (k + 1) x = spAt l k x := by
    intro x hx hxj
    obtain ⟨hx1, hx2⟩ := mem_nodes.1 hx
    unfold spAt
    rw [endTo_same he hx1 hx2 (fun h => hxj (by have := h.2; rw [hs] at this; simpa using this.symm))]
  have hA : (nodesTo l j).map (spAt l (k + 1)) = (nodesTo l j).map (spAt l k) := List.map_congr_left fun x hx => hsame x (by rw [hB]; exact List.mem_append_left _ hx) (by have := (mem_nodes.1 hx).1; omega)
  have hBm : B.map (spAt l (k + 1)) = B.map (spAt l k) := List.map_congr_left fun x hx => hsame x (by rw [hB]; exact List.mem_append_right _ (List.mem_cons_of_mem _ hx)) (by have := hgt x hx; omega)
  have s1 : spAt l k j = ⟨j, -1, upG l j 0⟩ := by unfold spAt; rw [e1]
  have s2 : spAt l (k + 1) j = ⟨j, (k : Int), upG l j 0⟩ := by unfold spAt; rw [e2]
  have t1 : spansTo l k = (nodesTo l j).map (spAt l k) ++ ⟨j, -1, upG l j 0⟩ :: B.map (spAt l k) := by
    unfold spansTo
    rw [hB, List.map_append, List.map_cons, s1]
  have t2 : spansTo l (k + 1) = (nodesTo l j).map (spAt l k) ++ ⟨j, (k : Int), upG l j 0⟩ :: B.map (spAt l k) := by
    unfold spansTo
    rw [nodesTo_no hb, hB, List.map_append, List.map_cons, s2, hA, hBm]
  constructor
  · rw [t1, List.getElem?_append_right (by simp)]
    simp
  · rw [t1, t2, List.set_append_right _ _ (by simp)]
    simp
theorem opens_col {l : List Ev} {k : Nat} {e : Ev} (he : l[k]? = some e) (hc : colE e = true) : opensTo l (k + 1) = (spansTo l k).length :: opensTo l k := by
  unfold opensTo
  rw [stk_col he hc, List.map_cons]
  simp [openAt, spansTo]
theorem opens_end {l : List Ev} {k j : Nat} {r : List Nat} {e : Ev} (he : l[k]? = some e) (h7 : e.kind = 7) (hs : stk l k = j :: r) : opensTo l k = (nodesTo l j).length :: opensTo l (k + 1) := by
  unfold opensTo
  rw [stk_end he h7, hs]
  rfl
theorem opens_else {l : List Ev} {k : Nat} {e : Ev} (he : l[k]? = some e) (hc : colE e = false) (h7 : e.kind ≠ 7) : opensTo l (k + 1) = opensTo l k := by
  unfold opensTo
  rw [stk_else he hc h7]
/-- The last one that is open, as the program finds it. -/
theorem opens_top {l : List Ev} {k j : Nat} {r : List Nat} (hs : stk l k = j :: r) : ∃ s, (spansTo l k)[(nodesTo l j).length]? = some s ∧ s.at_ = j := by
  have hm : j ∈ stk l k := by rw [hs]; exact List.mem_cons_self
  have hjk := stk_lt l k j hm
  obtain ⟨e0, h0, hc0⟩ := stk_is l k j hm
  have hn : nodB l j = true := by rw [nodB_some h0]; exact col_node hc0
  obtain ⟨B, hB, _⟩ := nodes_split hn k hjk
  refine ⟨spAt l k j, ?_, rfl⟩
  unfold spansTo
  rw [hB, List.map_append, List.getElem?_append_right (by simp)]
  simp
/-- All of them. -/
def fin (l : List Ev) (j : Nat) : Sp := ⟨j, endN l j, upG l j 0⟩
def spansF (l : List Ev) : List Sp := (nodesTo l l.length).map (fin l)
theorem spans_all (l : List Ev) : spansTo l l.length = spansF l := by
  unfold spansTo spansF
  apply List.map_congr_left
  intro j hj
  obtain ⟨h1, h2⟩ := mem_nodes.1 hj
  unfold spAt fin
  congr 1
  unfold endTo
  rcases endN_le l j (by omega) with h | h
  · rw [h]; simp
  · rw [if_pos (by omega)]
/-- What a nested list keeps to, place by place. -/
theorem nst_at {l : List Ev} (h : nested l = true) : ∀ (k : Nat), k < l.length → ∃ (first : Bool) (doc : Int) (st : List Int), nst first doc st (l.drop k) = true ∧ st.length = (stk l k).length ∧ (doc = 0 ∨ doc = 1 ∨ doc = 2) ∧ (doc ≠ 2 → st = []) ∧ (doc = 1 ↔ (0 < k ∧ kindAt l (k - 1) = 2)) ∧ (first = true ↔ k = 0)
  | 0, _ => ⟨true, 0, [], by simpa [nested] using h, by simp [stk], .inl rfl, fun _ => rfl, by simp, by simp⟩
  | k + 1, hk => by
    obtain ⟨first, doc, st, h1, h2, h3, h4, h5, h6⟩ := nst_at h k (by omega)
    obtain ⟨e, he⟩ : ∃ e, l[k]? = some e := ⟨_, List.getElem?_eq_getElem (by omega)⟩
    have hka : kindAt l (k + 1 - 1) = e.kind := by unfold kindAt; rw [show k + 1 - 1 = k from rfl, he]
    rw [hka]
    rw [drop_ev he] at h1
    have hok : evOk e = true := by
      cases h' : evOk e
      · exact (nst_bad h1 h').symm ▸ rfl
      · rfl
    have hfi : (first != (e.kind == 1)) = false := by
      cases h' : (first != (e.kind == 1))
      · rfl
      · exact absurd (nst_first h1 hok h') (by simp)
    have hi := nst_in h1 hok hfi
    have hkd := evOk_kind hok
    have hne : (l.drop (k + 1)).isEmpty = false := by
      cases hd : l.drop (k + 1) with
      | nil => have := congrArg List.length hd; simp at this; omega
      | cons _ _ => rfl
    have hfF : (false = true ↔ k + 1 = 0) := by simp
    by_cases k10 : e.kind = 10
    · rw [if_pos k10, hne] at hi; cases hi
    rw [if_neg k10] at hi
    by_cases k2 : e.kind = 2
    · rw [if_pos k2] at hi
      split at hi
      · rename_i hd
        exact ⟨false, 1, st, hi, by rw [stk_else he (by unfold colE; simp; omega) (by omega)]; exact h2, by simp, fun _ => h4 (by omega), by simp [k2], hfF⟩
      · cases hi
    rw [if_neg k2] at hi
    by_cases kn : 3 ≤ e.kind ∧ e.kind ≤ 6
    · rw [if_pos kn] at hi
      have hlen : ∀ s : List Int, (pushK e.kind s).length = if colE e = true then s.length + 1 else s.length := by
        intro s
        unfold pushK colE
        by_cases k3 : e.kind = 3
        · simp [k3]
        · by_cases k4 : e.kind = 4
          · simp [k4]
          · simp [k3, k4]
      have hst : (stk l (k + 1)).length = if colE e = true then (stk l k).length + 1 else (stk l k).length := by
        by_cases hc : colE e = true
        · rw [stk_col he hc, if_pos hc]; rfl
        · rw [stk_else he (by simpa using hc) (by omega), if_neg hc]
      split at hi
      · rename_i hs0
        split at hi
        · refine ⟨false, 2, _, hi, ?_, by simp, by simp, by simp [k2], hfF⟩
          rw [hlen, hst, ← h2, hs0]
        · cases hi
      · rename_i hs0
        have hd2 : doc = 2 := by
          apply Classical.byContradiction
          intro hd
          exact hs0 (h4 hd)
        refine ⟨false, doc, _, hi, ?_, h3, by simp [hd2], by simp [hd2, k2], hfF⟩
        rw [hlen, hst, ← h2]
        cases st with
        | nil => exact absurd rfl hs0
        | cons a b => simp
    rw [if_neg kn] at hi
    by_cases k7 : e.kind = 7
    · rw [if_pos k7] at hi
      split at hi
      · cases hi
      · rename_i hs0
        split at hi
        · cases hi
        · have hd2 : doc = 2 := by
            apply Classical.byContradiction
            intro hd
            exact hs0 (h4 hd)
          refine ⟨false, doc, _, hi, ?_, h3, by simp [hd2], by simp [hd2, k2], hfF⟩
          rw [stk_end he k7, List.length_tail, List.length_tail, h2]
    rw [if_neg k7] at hi
    have hsn : stk l (k + 1) = stk l k := stk_else he (by unfold colE; simp; omega) k7
    by_cases k8 : e.kind = 8
    · rw [if_pos k8] at hi
      split at hi
      · rename_i hd
        refine ⟨false, 0, [], hi, ?_, by simp, fun _ => rfl, by simp [k2], hfF⟩
        rw [hsn, ← h2, hd.2]
      · cases hi
    rw [if_neg k8] at hi
    by_cases k9 : e.kind = 9
    · rw [if_pos k9, hne] at hi; cases hi
    rw [if_neg k9] at hi
    have k1 : e.kind = 1 := by omega
    have hft : first = true := by
      rw [k1] at hfi
      cases first
      · simp at hfi
      · rfl
    have hk0 : k = 0 := h6.1 hft
    subst hk0
    have hd1 : doc ≠ 1 := fun hd => by have := (h5.1 hd).1; omega
    exact ⟨false, doc, st, hi, by rw [hsn]; exact h2, h3, h4, by simp [hd1, k2], hfF⟩
structure NsAt (l : List Ev) (k : Nat) (e : Ev) : Prop where
  ok : evOk e = true
  end_ : e.kind = 7 → stk l k ≠ []
  root : nodE e = true → (stk l k = [] ↔ (0 < k ∧ kindAt l (k - 1) = 2))
  last : nodE e = false → e.kind ≠ 7 → stk l k ≠ [] → k + 1 = l.length
  doc : 0 < k → kindAt l (k - 1) = 2 → nodE e = true ∨ k + 1 = l.length
theorem ns_at {l : List Ev} (h : nested l = true) {k : Nat} {e : Ev} (he : l[k]? = some e) : NsAt l k e := by
  have hk : k < l.length := (List.getElem?_eq_some_iff.1 he).1
  obtain ⟨first, doc, st, h1, h2, h3, h4, h5, h6⟩ := nst_at h k hk
  rw [drop_ev he] at h1
  have hok : evOk e = true := by
    cases h' : evOk e
    · exact (nst_bad h1 h').symm ▸ rfl
    · rfl
  have hfi : (first != (e.kind == 1)) = false := by
    cases h' : (first != (e.kind == 1))
    · rfl
    · exact absurd (nst_first h1 hok h') (by simp)
  have hi := nst_in h1 hok hfi
  have hkd := evOk_kind hok
  have hse : st = [] ↔ stk l k = [] := by
    rw [← List.length_eq_zero_iff, ← List.length_eq_zero_iff (l := stk l k), h2]
  have hnode : nodE e = true ↔ (3 ≤ e.kind ∧ e.kind ≤ 6) := by unfold nodE; simp
  have hnodf : nodE e = false ↔ ¬ (3 ≤ e.kind ∧ e.kind ≤ 6) := by
    rw [← hnode]; simp
  have hend : (l.drop (k + 1)).isEmpty = true → k + 1 = l.length := by
    intro hx
    have := congrArg List.length (List.isEmpty_iff.1 hx)
    simp at this
    omega
  have h1k : e.kind = 1 → k = 0 := by
    intro k1
    apply h6.1
    rw [k1] at hfi
    cases first
    · simp at hfi
    · rfl
  refine ⟨hok, ?_, ?_, ?_, ?_⟩
  · intro k7 hs0
    rw [if_neg (by omega), if_neg (by omega), if_neg (by omega), if_pos k7, if_pos (hse.2 hs0)] at hi
    cases hi
  · intro hn
    have kn := hnode.1 hn
    rw [if_neg (by omega), if_neg (by omega), if_pos kn] at hi
    rw [← hse, ← h5]
    constructor
    · intro hs0
      rw [if_pos hs0] at hi
      split at hi
      · assumption
      · cases hi
    · intro hd
      exact h4 (by omega)
  · intro hn k7 hs0
    have kn := hnodf.1 hn
    have hst : st ≠ [] := fun h => hs0 (hse.1 h)
    have hd2 : doc = 2 := by
      apply Classical.byContradiction
      intro hd
      exact hst (h4 hd)
    by_cases k10 : e.kind = 10
    · rw [if_pos k10] at hi; exact hend hi
    rw [if_neg k10] at hi
    by_cases k2 : e.kind = 2
    · rw [if_pos k2, if_neg (by omega)] at hi; cases hi
    rw [if_neg k2, if_neg kn, if_neg k7] at hi
    by_cases k8 : e.kind = 8
    · rw [if_pos k8, if_neg (fun h => hst h.2)] at hi; cases hi
    rw [if_neg k8] at hi
    by_cases k9 : e.kind = 9
    · rw [if_pos k9] at hi
      simp at hi
      omega
    have hk0 := h1k (by omega)
    subst hk0
    exact absurd rfl hs0
  · intro hk0 hkk
    have hd1 : doc = 1 := h5.2 ⟨hk0, hkk⟩
    have hst : st = [] := h4 (by omega)
    by_cases kn : 3 ≤ e.kind ∧ e.kind ≤ 6
    · exact .inl (hnode.2 kn)
    · right
      by_cases k10 : e.kind = 10
      · rw [if_pos k10] at hi; exact hend hi
      rw [if_neg k10] at hi
      by_cases k2 : e.kind = 2
      · rw [if_pos k2, if_neg (by omega)] at hi; cases hi
      rw [if_neg k2, if_neg kn] at hi
      by_cases k7 : e.kind = 7
      · rw [if_pos k7, if_pos hst] at hi; cases hi
      rw [if_neg k7] at hi
      by_cases k8 : e.kind = 8
      · rw [if_pos k8, if_neg (by omega)] at hi; cases hi
      rw [if_neg k8] at hi
      by_cases k9 : e.kind = 9
      · rw [if_pos k9] at hi
        simp at hi
        omega
      have := h1k (by omega)
      omega
end Go.Proofs.Ytkdlakcmhdiojaa
