/- Lists of events, as they lie. -/
import Derived.Test.YtmbbmibkjnlkkaaEvs
import Derived.WalkKit
import Derived.ProofKit
import Derived.Below
namespace Go.Proofs.Ytmbbmibkjnlkkaa
open Go.RowKit
/-- A list of events, as it lies. -/
def SlE (w : World) (v : Value) (es : List Ev) : Prop :=
  (es = [] ∧ ∃ a c, v = .slice a 0 c) ∨
  (es ≠ [] ∧ ∃ b off c, v = .slice (some ⟨b, off, none⟩) es.length c ∧ b < w.heap.size ∧ es.length ≤ c ∧ ∀ i e, es[i]? = some e → ∀ j u, e.row[j]? = some u → w.cell? ⟨b, off + i * 8 + j, none⟩ = some u)
theorem SlE.stays {w w' : World} {v : Value} {es : List Ev} (h : SlE w v es) (hb : Below w.heap.size w w') : SlE w' v es := by
  rcases h with h | ⟨h, b, off, c, e, hlt, hc, hh⟩
  · exact .inl h
  · exact .inr ⟨h, b, off, c, e, Nat.lt_of_lt_of_le hlt hb.size, hc, fun i p hi j u hu => by rw [hb.cell hlt]; exact hh i p hi j u hu⟩
theorem SlE.sl {w : World} {v : Value} {es : List Ev} (h : SlE w v es) : ∃ a c, v = .slice a es.length c := by
  rcases h with ⟨rfl, a, c, rfl⟩ | ⟨_, b, off, c, rfl, _⟩
  · exact ⟨a, c, rfl⟩
  · exact ⟨_, c, rfl⟩
/-- The cells of the element k. -/
structure EvAt (w : World) (b o : Nat) (e : Ev) : Prop where
  c0 : w.cell? ⟨b, o, none⟩ = some (.int .i64 e.kind)
  c1 : w.cell? ⟨b, o + 1, none⟩ = some (.int .i64 e.style)
  c2 : w.cell? ⟨b, o + 2, none⟩ = some (.bool e.flag)
  c3 : w.cell? ⟨b, o + 3, none⟩ = some (.string e.text)
  c4 : w.cell? ⟨b, o + 4, none⟩ = some (.string e.anchor)
  c5 : w.cell? ⟨b, o + 5, none⟩ = some (.string e.tag)
  c6 : w.cell? ⟨b, o + 6, none⟩ = some (.int .i64 e.at_)
  c7 : w.cell? ⟨b, o + 7, none⟩ = some (.int .i64 e.code)
theorem SlE.at {w wr : World} {a : Option Addr} {c : Nat} {es : List Ev} (h : SlE w (.slice a es.length c) es) (hb : Below w.heap.size w wr) {k : Nat} {e : Ev} (hx : es[k]? = some e) :
    ∃ b off, a = some ⟨b, off, none⟩ ∧ b < w.heap.size ∧ EvAt wr b (off + k * 8) e := by
  rcases h with ⟨e1, _⟩ | ⟨_, b, off, _, e1, hbl, _, hcell⟩
  · rw [e1] at hx; simp at hx
  · injection e1 with e1
    refine ⟨b, off, e1, hbl, ?_⟩
    have hc : ∀ j u, e.row[j]? = some u → wr.cell? ⟨b, off + k * 8 + j, none⟩ = some u := fun j u hu => by rw [hb.cell hbl]; exact hcell k e hx j u hu
    exact ⟨hc 0 _ rfl, hc 1 _ rfl, hc 2 _ rfl, hc 3 _ rfl, hc 4 _ rfl, hc 5 _ rfl, hc 6 _ rfl, hc 7 _ rfl⟩
theorem ev_at {w : World} {b : Nat} {t : TypeId} {x0 x1 x2 x3 x4 x5 x6 x7 : Value} (h : w.heap[b]? = some (.cells #[x0, x1, x2, x3, x4, x5, x6, x7] t (0, 0))) :
    w.cell? ⟨b, 0, none⟩ = some x0 ∧ w.cell? ⟨b, 1, none⟩ = some x1 ∧ w.cell? ⟨b, 2, none⟩ = some x2 ∧ w.cell? ⟨b, 3, none⟩ = some x3 ∧ w.cell? ⟨b, 4, none⟩ = some x4 ∧ w.cell? ⟨b, 5, none⟩ = some x5 ∧ w.cell? ⟨b, 6, none⟩ = some x6 ∧ w.cell? ⟨b, 7, none⟩ = some x7 := by
  simp [World.cell?, h]
/-- The sizes of the texts of an event, and of all of a list. -/
def Ev.tot (e : Ev) : Nat := e.text.size + e.anchor.size + e.tag.size
def totE : List Ev → Nat
  | [] => 0
  | e :: t => e.tot + totE t
theorem totE_app : ∀ (a b : List Ev), totE (a ++ b) = totE a + totE b
  | [], b => by simp [totE]
  | h :: t, b => by have := totE_app t b; simp only [List.cons_append, totE, this]; omega
theorem totE_take {es : List Ev} {k : Nat} {e : Ev} (h : es[k]? = some e) : totE (es.take (k + 1)) = totE (es.take k) + e.tot := by
  rw [List.take_add_one, h, totE_app]
  simp [totE]
theorem totE_mem : ∀ {es : List Ev} {e : Ev}, e ∈ es → e.tot ≤ totE es
  | x :: t, h, e => by
    rcases List.mem_cons.1 e with rfl | e
    · simp only [totE]; omega
    · have := totE_mem e
      simp only [totE]; omega
def wideE (e : Ev) : Prop := e.text.size ≤ 9223372036854775807 ∧ e.anchor.size ≤ 9223372036854775807 ∧ e.tag.size ≤ 9223372036854775807
def wideEs (es : List Ev) : Prop := ∀ e ∈ es, wideE e
end Go.Proofs.Ytmbbmibkjnlkkaa
