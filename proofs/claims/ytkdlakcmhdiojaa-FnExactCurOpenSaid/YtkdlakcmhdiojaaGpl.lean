/- Graphs as plain data, and how they lie in memory: lists of numbers and of nodes that can be read. -/
import Derived.WalkKit
import Derived.ProofKit
import Derived.Below
import Derived.Deep.Draws
namespace Go.Proofs.Ytkdlakcmhdiojaa
open Go.RowKit
structure Nd where
  kind : Int
  tag : ByteArray
  text : ByteArray
  kids : List Int
structure Gr where
  nodes : List Nd
  roots : List Int
/-- A list of numbers that can be read. -/
def IlAt (w : World) (v : Value) (l : List Int) : Prop :=
  (l = [] ∧ ∃ a c, v = .slice a 0 c) ∨ (l ≠ [] ∧ ∃ b off c, v = .slice (some ⟨b, off, none⟩) l.length c ∧ b < w.heap.size ∧ ∀ (i : Nat) (n : Int), l[i]? = some n → w.cell? ⟨b, off + i, none⟩ = some (.int .i64 n))
theorem IlAt.sl {w : World} {v : Value} {l : List Int} (h : IlAt w v l) : ∃ a c, v = .slice a l.length c := by
  rcases h with ⟨rfl, a, c, rfl⟩ | ⟨_, b, off, c, rfl, _⟩
  · exact ⟨a, c, rfl⟩
  · exact ⟨_, c, rfl⟩
theorem IlAt.at {w : World} {a : Option Addr} {c : Nat} {l : List Int} (h : IlAt w (.slice a l.length c) l) {k : Nat} {n : Int} (hx : l[k]? = some n) : ∃ b off, a = some ⟨b, off, none⟩ ∧ b < w.heap.size ∧ w.cell? ⟨b, off + k, none⟩ = some (.int .i64 n) := by
  rcases h with ⟨e1, _⟩ | ⟨_, b, off, _, e1, hbl, hcell⟩
  · rw [e1] at hx; simp at hx
  · injection e1 with e1
    exact ⟨b, off, e1, hbl, hcell k n hx⟩
theorem IlAt.later {w w' : World} {v : Value} {l : List Int} (h : IlAt w v l) (hb : Below w.heap.size w w') : IlAt w' v l := by
  rcases h with h | ⟨h0, b, off, c, e, hlt, hc⟩
  · exact .inl h
  · exact .inr ⟨h0, b, off, c, e, Nat.lt_of_lt_of_le hlt hb.size, fun i n hi => by rw [hb.cell hlt]; exact hc i n hi⟩
/-- The cells of a node. -/
structure NdAt (w : World) (b o : Nat) (n : Nd) (kv : Value) : Prop where
  c0 : w.cell? ⟨b, o, none⟩ = some (.int .i64 n.kind)
  c1 : w.cell? ⟨b, o + 1, none⟩ = some (.string n.tag)
  c2 : w.cell? ⟨b, o + 2, none⟩ = some (.string n.text)
  c3 : w.cell? ⟨b, o + 3, none⟩ = some kv
  kids : IlAt w kv n.kids
/-- A list of nodes that can be read. -/
def NlAt (w : World) (v : Value) (l : List Nd) : Prop :=
  (l = [] ∧ ∃ a c, v = .slice a 0 c) ∨ (l ≠ [] ∧ ∃ b off c, v = .slice (some ⟨b, off, none⟩) l.length c ∧ b < w.heap.size ∧ ∀ (i : Nat) (n : Nd), l[i]? = some n → ∃ kv, NdAt w b (off + i * 4) n kv)
theorem NlAt.sl {w : World} {v : Value} {l : List Nd} (h : NlAt w v l) : ∃ a c, v = .slice a l.length c := by
  rcases h with ⟨rfl, a, c, rfl⟩ | ⟨_, b, off, c, rfl, _⟩
  · exact ⟨a, c, rfl⟩
  · exact ⟨_, c, rfl⟩
theorem NlAt.at {w : World} {a : Option Addr} {c : Nat} {l : List Nd} (h : NlAt w (.slice a l.length c) l) {k : Nat} {n : Nd} (hx : l[k]? = some n) : ∃ b off kv, a = some ⟨b, off, none⟩ ∧ b < w.heap.size ∧ NdAt w b (off + k * 4) n kv := by
  rcases h with ⟨e1, _⟩ | ⟨_, b, off, _, e1, hbl, hcell⟩
  · rw [e1] at hx; simp at hx
  · injection e1 with e1
    obtain ⟨kv, hk⟩ := hcell k n hx
    exact ⟨b, off, kv, e1, hbl, hk⟩
theorem NdAt.later {w w' : World} {b o : Nat} {n : Nd} {kv : Value} (h : NdAt w b o n kv) (hlt : b < w.heap.size) (hb : Below w.heap.size w w') : NdAt w' b o n kv :=
  ⟨by rw [hb.cell hlt]; exact h.c0, by rw [hb.cell hlt]; exact h.c1, by rw [hb.cell hlt]; exact h.c2, by rw [hb.cell hlt]; exact h.c3, h.kids.later hb⟩
theorem NlAt.later {w w' : World} {v : Value} {l : List Nd} (h : NlAt w v l) (hb : Below w.heap.size w w') : NlAt w' v l := by
  rcases h with h | ⟨h0, b, off, c, e, hlt, hc⟩
  · exact .inl h
  · refine .inr ⟨h0, b, off, c, e, Nat.lt_of_lt_of_le hlt hb.size, fun i n hi => ?_⟩
    obtain ⟨kv, hk⟩ := hc i n hi
    exact ⟨kv, hk.later hlt hb⟩
/-- A graph that can be read. -/
def GrAt (w : World) (nv rv : Value) (g : Gr) : Prop := NlAt w nv g.nodes ∧ IlAt w rv g.roots
theorem GrAt.later {w w' : World} {nv rv : Value} {g : Gr} (h : GrAt w nv rv g) (hb : Below w.heap.size w w') : GrAt w' nv rv g := ⟨h.1.later hb, h.2.later hb⟩
def Nd.tot (n : Nd) : Nat := n.tag.size + n.text.size + n.kids.length
def totN : List Nd → Nat
  | [] => 0
  | n :: t => n.tot + totN t
def Gr.tot (g : Gr) : Nat := g.nodes.length + totN g.nodes + g.roots.length
theorem totN_app : ∀ (a b : List Nd), totN (a ++ b) = totN a + totN b
  | [], b => by simp [totN]
  | h :: t, b => by have := totN_app t b; simp only [List.cons_append, totN, this]; omega
theorem totN_take {ns : List Nd} {k : Nat} {n : Nd} (h : ns[k]? = some n) : totN (ns.take (k + 1)) = totN (ns.take k) + n.tot := by
  rw [List.take_add_one, h, totN_app]
  simp [totN]
theorem totN_mem : ∀ {ns : List Nd} {n : Nd}, n ∈ ns → n.tot ≤ totN ns
  | x :: t, h, e => by
    rcases List.mem_cons.1 e with rfl | e
    · simp only [totN]; omega
    · have := totN_mem e
      simp only [totN]; omega
def wideN (n : Nd) : Prop := n.tag.size ≤ 9223372036854775807 ∧ n.text.size ≤ 9223372036854775807 ∧ n.kids.length ≤ 9223372036854775807
def wfN (n : Nd) : Prop := (Lit.int .i64 n.kind).wf = true ∧ ∀ k ∈ n.kids, (Lit.int .i64 k).wf = true
structure Gr.Wide (g : Gr) : Prop where
  nodes : g.nodes.length ≤ 9223372036854775807
  roots : g.roots.length ≤ 9223372036854775807
  each : ∀ n ∈ g.nodes, wideN n
structure Gr.Wf (g : Gr) : Prop where
  roots : ∀ k ∈ g.roots, (Lit.int .i64 k).wf = true
  each : ∀ n ∈ g.nodes, wfN n
end Go.Proofs.Ytkdlakcmhdiojaa
