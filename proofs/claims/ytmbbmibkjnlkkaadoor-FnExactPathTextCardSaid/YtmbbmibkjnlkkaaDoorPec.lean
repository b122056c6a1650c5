/- Escapes in an event's line, as plain lists of bytes; rows of bytes of the call's own. -/
import Derived.Test.YtmbbmibkjnlkkaaDoorLn
import Derived.Test.YtmbbmibkjnlkkaaDoorPsh
import Derived.Test.YtmbbmibkjnlkkaaDoorProg
import Derived.WalkLawsBesides
import Derived.WalkSpells
import Derived.Lib.ItoaNum
import Derived.Lib.SmallJoins
namespace Go.Proofs.YtmbbmibkjnlkkaaDoor
open Go.ChangeShapes Go.WideShapes Go.ChangeAt Go.RowKit
/-- What is written with a backslash, and how. -/
def escA : List Nat := [92, 10, 9, 13, 8, 0]
def escB : List Nat := [92, 110, 116, 114, 98, 48]
def esc1 (c : Nat) : List Nat := if c = 92 then [92, 92] else if c = 10 then [92, 110] else if c = 9 then [92, 116] else if c = 13 then [92, 114] else if c = 8 then [92, 98] else if c = 0 then [92, 48] else [c]
def escTo (s : ByteArray) : Nat → List Nat
  | 0 => []
  | k + 1 => escTo s k ++ esc1 (bt s k)
theorem esc1_len (c : Nat) : (esc1 c).length ≤ 2 := by
  unfold esc1
  repeat (first | (split; exact Nat.le_refl _) | (split; · exact Nat.le_refl _))
  simp
theorem escTo_len (s : ByteArray) : ∀ k, (escTo s k).length ≤ 2 * k
  | 0 => by simp [escTo]
  | k + 1 => by
    have h1 := escTo_len s k
    have h2 := esc1_len (bt s k)
    simp only [escTo, List.length_append]
    omega
def u8s (l : List Nat) : List Value := l.map fun (n : Nat) => Value.int .u8 (n : Int)
def strN (l : List Nat) : ByteArray := strOfNums (l.map fun (n : Nat) => (n : Int))
/-- Bytes of the call's own. -/
def OwB (lo : Nat) (l : List Nat) (v : Value) (w : World) : Prop := w.ownsRow lo 5 1 v l.length (u8s l)
theorem infoB : (Tryd.prog.info? 5).map (fun i => (i.zero, i.size, i.bytes)) = some (some (.int .u8 0), 1, 1) := by kernel_rfl
theorem OwB.sl {lo : Nat} {l : List Nat} {v : Value} {w : World} (h : OwB lo l v w) : ∃ a c, v = .slice a l.length c := by
  rcases h.2 with ⟨rfl, e⟩ | ⟨g, cap, cur, rfl, _⟩
  · exact ⟨_, _, by rw [e]⟩
  · exact ⟨_, _, rfl⟩
theorem OwB.stays {lo : Nat} {l : List Nat} {v : Value} {w w' : World} (h : OwB lo l v w) (hb : Below w.heap.size w w') : OwB lo l v w' := row_same h (fun k _ hk => hb.block k hk)
/-- Some bytes more. -/
theorem OwB.put {lo : Nat} {l : List Nat} {v : Value} {w : World} (h : OwB lo l v w) (hlo : lo ≤ w.heap.size) (hl : l.length ≤ 100000000) (ms : List Nat) (hm : ms.length ≤ 100) (ty : TypeId) :
    ∃ v' w', (Builtin.append_ #[22, 22] ty #[v, .slice (some ⟨w.heap.size, 0, none⟩) ms.length ms.length]).run Tryd.prog (w.alloc (.cells (u8s ms).toArray 5)) = .ok v' w' ∧ isSl' v' ∧ OwB lo (l ++ ms) v' w' ∧ Below lo w w' ∧
      (∀ b, b < w.heap.size → v.ownBlock ≠ some b → w'.heap[b]? = w.heap[b]?) := by
  obtain ⟨ti, hti, hz0, hz1, hz2⟩ := info_parts infoB
  obtain ⟨v2, w2, hr2, ho2, hg2, _, _⟩ := run_append_own_at (P := Tryd.prog) (w.alloc (.cells (u8s ms).toArray 5)) lo 22 ty 5 ti _ 1 1 Tryd.underlying22 hti hz0 hz1 hz2 rfl (by decide) v l.length (u8s l) (World.ownsRow.alloc h _) ⟨w.heap.size, 0, none⟩ ms.length ms.length (u8s ms) (by simp [u8s])
    (World.news_of_block (cs := (u8s ms).toArray) (t := 5) (fr := (0, 0)) (new_block w _)) (by
      intro u hu
      obtain ⟨n, _, rfl⟩ := List.mem_map.1 hu
      rfl) (by unfold maxLen; omega) (by omega) (by simp; omega)
  have hsz : w.heap.size ≤ w2.heap.size := by have := hg2.size; simp at this; omega
  have hblk : ∀ b, b < w.heap.size → v.ownBlock ≠ some b → w2.heap[b]? = w.heap[b]? := fun b hb hne => (hg2.block b (by simp; omega) (fun e => hne e.symm)).trans (Below.heap_alloc w _ b hb)
  have hlo2 : ∀ b, v.ownBlock = some b → lo ≤ b := fun b hb => (World.ownsRow.lt h b hb).1
  refine ⟨v2, w2, hr2, ?_, ?_, ⟨hg2.os, hg2.tape, hg2.output, hsz, fun b hb => hblk b (by omega) (fun e => by have := hlo2 b e; omega)⟩, hblk⟩
  · rcases ho2.2 with ⟨e, _⟩ | ⟨g, cap, cur, e, _⟩
    · exact ⟨_, _, _, e⟩
    · exact ⟨_, _, _, e⟩
  · show w2.ownsRow lo 5 1 v2 (l ++ ms).length (u8s (l ++ ms))
    rw [List.length_append, show u8s (l ++ ms) = u8s l ++ u8s ms from List.map_append]
    exact ho2
/-- As a text. -/
theorem OwB.conv {lo : Nat} {l : List Nat} {v : Value} {w : World} (h : OwB lo l v w) : (convert 22 9 v).run Tryd.prog w = .ok (.string (strN l)) w := by
  rcases h.2 with ⟨rfl, h0⟩ | ⟨g, cap, cur, rfl, _, hg, hn, _, hs, ht⟩
  · obtain rfl : l = [] := List.length_eq_zero_iff.1 h0
    exact run_convert_bytes_nil w 22 5 Tryd.underlying22 Tryd.underlying5 0 0 9 Tryd.underlying9
  · refine run_convert_bytes_arg w 22 5 Tryd.underlying22 Tryd.underlying5 g 0 l.length cap (l.map fun (n : Nat) => (n : Int)) (by simp) (fun i hi => ?_) 9 Tryd.underlying9
    have hi' : i < l.length := by simpa using hi
    have := World.ownsRow.cells (g := g) h rfl i (.int .u8 ((l.map fun (n : Nat) => (n : Int)).getD i 0)) (by simp [u8s, hi'])
    by_cases e : i = 0
    · subst e; simpa [Addr.add] using this
    · simpa [Addr.add, e] using this
end Go.Proofs.YtmbbmibkjnlkkaaDoor
