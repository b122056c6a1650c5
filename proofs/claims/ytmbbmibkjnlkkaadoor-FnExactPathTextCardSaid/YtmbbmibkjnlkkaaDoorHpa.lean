/- Seg: plain, and how it and lists of it lie. -/
import Derived.WalkKit
import Derived.ProofKit
import Derived.Below
namespace Go.Proofs.YtmbbmibkjnlkkaaDoor
open Go.RowKit
structure Sg where
  kind : Int
  n : Int
  text : ByteArray
def Sg.row (s : Sg) : Array Value := #[.int .i64 s.kind, .int .i64 s.n, .string s.text]
/-- A list of them, as it lies. -/
def SgL (w : World) (v : Value) (es : List Sg) : Prop :=
  (es = [] ∧ ∃ a c, v = .slice a 0 c) ∨
  (es ≠ [] ∧ ∃ b off c, v = .slice (some ⟨b, off, none⟩) es.length c ∧ b < w.heap.size ∧ es.length ≤ c ∧ ∀ i e, es[i]? = some e → ∀ j u, e.row[j]? = some u → w.cell? ⟨b, off + i * 3 + j, none⟩ = some u)
theorem SgL.stays {w w' : World} {v : Value} {es : List Sg} (h : SgL w v es) (hb : Below w.heap.size w w') : SgL w' v es := by
  rcases h with h | ⟨h, b, off, c, e, hlt, hc, hh⟩
  · exact .inl h
  · exact .inr ⟨h, b, off, c, e, Nat.lt_of_lt_of_le hlt hb.size, hc, fun i p hi j u hu => by rw [hb.cell hlt]; exact hh i p hi j u hu⟩
theorem SgL.sl {w : World} {v : Value} {es : List Sg} (h : SgL w v es) : ∃ a c, v = .slice a es.length c := by
  rcases h with ⟨rfl, a, c, rfl⟩ | ⟨_, b, off, c, rfl, _⟩
  · exact ⟨a, c, rfl⟩
  · exact ⟨_, c, rfl⟩
structure SgAt (w : World) (b o : Nat) (s : Sg) : Prop where
  c0 : w.cell? ⟨b, o, none⟩ = some (.int .i64 s.kind)
  c1 : w.cell? ⟨b, o + 1, none⟩ = some (.int .i64 s.n)
  c2 : w.cell? ⟨b, o + 2, none⟩ = some (.string s.text)
theorem SgL.at {w wr : World} {a : Option Addr} {c : Nat} {es : List Sg} (h : SgL w (.slice a es.length c) es) (hb : Below w.heap.size w wr) {k : Nat} {e : Sg} (hx : es[k]? = some e) :
    ∃ b off, a = some ⟨b, off, none⟩ ∧ b < w.heap.size ∧ SgAt wr b (off + k * 3) e := by
  rcases h with ⟨e1, _⟩ | ⟨_, b, off, _, e1, hbl, _, hcell⟩
  · rw [e1] at hx; simp at hx
  · injection e1 with e1
    refine ⟨b, off, e1, hbl, ?_⟩
    have hc : ∀ j u, e.row[j]? = some u → wr.cell? ⟨b, off + k * 3 + j, none⟩ = some u := fun j u hu => by rw [hb.cell hbl]; exact hcell k e hx j u hu
    exact ⟨hc 0 _ rfl, hc 1 _ rfl, hc 2 _ rfl⟩
theorem row_atP {w : World} {b : Nat} {t : TypeId} {x0 x1 x2 : Value} (h : w.heap[b]? = some (.cells #[x0, x1, x2] t (0, 0))) :
    w.cell? ⟨b, 0, none⟩ = some x0 ∧ w.cell? ⟨b, 1, none⟩ = some x1 ∧ w.cell? ⟨b, 2, none⟩ = some x2 := by
  simp [World.cell?, h]
def Sg.tot (s : Sg) : Nat := s.text.size
def totP : List Sg → Nat
  | [] => 0
  | e :: t => e.tot + totP t
theorem totP_app : ∀ (a b : List Sg), totP (a ++ b) = totP a + totP b
  | [], b => by simp [totP]
  | h :: t, b => by have := totP_app t b; simp only [List.cons_append, totP, this]; omega
theorem totP_take {es : List Sg} {k : Nat} {e : Sg} (h : es[k]? = some e) : totP (es.take (k + 1)) = totP (es.take k) + e.tot := by
  rw [List.take_add_one, h, totP_app]
  simp [totP]
theorem totP_mem : ∀ {es : List Sg} {e : Sg}, e ∈ es → e.tot ≤ totP es
  | x :: t, h, e => by
    rcases List.mem_cons.1 e with rfl | e
    · simp only [totP]; omega
    · have := totP_mem e
      simp only [totP]; omega
def wideP (s : Sg) : Prop := s.text.size ≤ 9223372036854775807
def wfP (s : Sg) : Prop := (Lit.int .i64 s.kind).wf = true ∧ (Lit.int .i64 s.n).wf = true
end Go.Proofs.YtmbbmibkjnlkkaaDoor
