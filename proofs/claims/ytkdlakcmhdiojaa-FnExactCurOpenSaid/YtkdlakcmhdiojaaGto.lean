/- A copy of a graph, which is the call's own. -/
import Derived.Test.YtkdlakcmhdiojaaGpl
import Derived.Test.YtkdlakcmhdiojaaProg
import Derived.WalkLawsBesides
import Derived.WalkSpells
import Derived.WalkMore
import Derived.Handy
import Derived.LoopN
import Derived.Laws.ResultCell
import Derived.Laws.Rows
import Derived.Deep.AppendLies
import Derived.Deep.DeepCutAuto
import Derived.OwnWalk
import Derived.Deep.QuietTactic
import Derived.BigQuiet
import Derived.Deep.OwnRows
import Derived.Deep.RegionWith
import Derived.Laws.MakeOwn
import Derived.Lib.BufferOwn
import Derived.Below
namespace Go.Proofs.Ytkdlakcmhdiojaa
open Go.ChangeShapes Go.WideShapes Go.ChangeAt Go.RowKit Go.Deep
def isSlG (v : Value) : Prop := ∃ a n c, v = .slice a n c
def ilV (l : List Int) : List Value := l.map (Value.int .i64)
theorem ilV_len (l : List Int) : (ilV l).length = l.length := by unfold ilV; simp
theorem g_own_of_row {w : World} {g t n : Nat} {f : Nat → Value} {size m : Nat} {xs : List Value} (h : w.rowIs g t (m * size) f) (hn : n = m) (hx : xs.length = m * size) (hf : ∀ i, i < m * size → xs[i]? = some (f i)) (hm : m ≤ maxLen) {lo : Nat} (hlo : lo ≤ g) :
    w.ownsRow lo t size (.slice (some ⟨g, 0, none⟩) n n) m xs := by
  subst hn
  obtain ⟨c, hb, hs, hc⟩ := h
  refine ⟨hx, .inr ⟨g, n, c, rfl, hlo, hb, Nat.le_refl _, hm, hs, ?_⟩⟩
  apply List.ext_getElem?
  intro i
  rw [List.getElem?_take]
  by_cases hi : i < n * size
  · rw [if_pos hi, Array.getElem?_toList, hc i hi, hf i hi]
  · rw [if_neg hi, List.getElem?_eq_none (by omega)]
theorem g_row_block {w w' : World} {lo e sz : Nat} {v : Value} {n : Nat} {xs : List Value} (h : w.ownsRow lo e sz v n xs) (hb : ∀ g, v.ownBlock = some g → w'.heap[g]? = w.heap[g]?) : w'.ownsRow lo e sz v n xs := by
  refine ⟨h.1, ?_⟩
  rcases h.2 with hn | ⟨g, cap, cur, rfl, hlo, hg, rest⟩
  · exact .inl hn
  · exact .inr ⟨g, cap, cur, rfl, hlo, by rw [hb g rfl]; exact hg, rest⟩
theorem g_row_below {w w' : World} {lo e sz : Nat} {v : Value} {n : Nat} {xs : List Value} (h : w.ownsRow lo e sz v n xs) (hb : Below w.heap.size w w') : w'.ownsRow lo e sz v n xs :=
  g_row_block h (fun g hg => hb.block g (h.lt g hg).2)
theorem g_row_lower {w : World} {lo lo' e sz : Nat} {v : Value} {n : Nat} {xs : List Value} (h : w.ownsRow lo e sz v n xs) (hl : lo' ≤ lo) : w.ownsRow lo' e sz v n xs := by
  refine ⟨h.1, ?_⟩
  rcases h.2 with hn | ⟨g, cap, cur, e1, e2, rest⟩
  · exact .inl hn
  · exact .inr ⟨g, cap, cur, e1, by omega, rest⟩
theorem infoIt : (Try.prog.info? 3).map (fun i => (i.zero, i.size, i.bytes)) = some (some (.int .i64 0), 1, 8) := by kernel_rfl
def zrowN : Array Value := #[.int .i64 0, .string ByteArray.empty, .string ByteArray.empty, .slice none 0 0]
theorem infoNd : (Try.prog.info? 70).map (fun i => (i.zero, i.size, i.bytes)) = some (some (.agg zrowN), 4, 64) := by kernel_rfl
theorem il_of_own {w : World} {lo : Nat} {v : Value} {l : List Int} (h : w.ownsRow lo 3 1 v l.length (ilV l)) : IlAt w v l := by
  by_cases hz : l = []
  · subst hz
    left
    rcases h.2 with ⟨e, _⟩ | ⟨g, cap, cur, e, _⟩
    · exact ⟨rfl, _, _, e⟩
    · exact ⟨rfl, _, _, e⟩
  · right
    have hpos : 0 < l.length := List.length_pos_iff.2 hz
    rcases h.2 with ⟨_, e⟩ | ⟨g, cap, cur, rfl, _, hg, _⟩
    · omega
    · refine ⟨hz, g, 0, cap, rfl, (Array.getElem?_eq_some_iff.1 hg).1, fun i n hi => ?_⟩
      have hx : (ilV l)[i]? = some (.int .i64 n) := by unfold ilV; rw [List.getElem?_map, hi]; rfl
      have h1 := h.cells (g := g) rfl i _ hx
      have a1 : (⟨g, 0, none⟩ : Addr).add i = ⟨g, i, none⟩ := by unfold Addr.add; split <;> simp_all
      rw [a1] at h1
      rw [Nat.zero_add]
      exact h1
theorem ilV_step {rs : List Int} {k : Nat} (hk : rs.length = k) (n : Int) (j : Nat) (d : Value) : (if j = k then Value.int .i64 n else (ilV rs)[j]?.getD d) = (ilV (rs ++ [n]))[j]?.getD d := by
  have e : ilV (rs ++ [n]) = ilV rs ++ [.int .i64 n] := by unfold ilV; simp
  have hl := ilV_len rs
  rw [e, List.getElem?_append]
  by_cases h1 : j < (ilV rs).length
  · rw [if_pos h1, if_neg (by omega)]
  · rw [if_neg h1]
    by_cases h2 : j = k
    · rw [if_pos h2, show j - (ilV rs).length = 0 by omega]
      rfl
    · rw [if_neg h2, List.getElem?_eq_none (l := ilV rs) (by omega), List.getElem?_eq_none (by simp; omega)]
section
variable {w : World} {b : Nat} {x0 x1 x2 x3 : Value} {t : TypeId}
theorem n4_0 (h : w.heap[b]? = some (.cells #[x0, x1, x2, x3] t (0, 0))) : w.cell? ⟨b, 0, none⟩ = some x0 := by simp [World.cell?, h]
theorem n4_1 (h : w.heap[b]? = some (.cells #[x0, x1, x2, x3] t (0, 0))) : w.cell? ⟨b, 1, none⟩ = some x1 := by simp [World.cell?, h]
theorem n4_2 (h : w.heap[b]? = some (.cells #[x0, x1, x2, x3] t (0, 0))) : w.cell? ⟨b, 2, none⟩ = some x2 := by simp [World.cell?, h]
theorem n4_3 (h : w.heap[b]? = some (.cells #[x0, x1, x2, x3] t (0, 0))) : w.cell? ⟨b, 3, none⟩ = some x3 := by simp [World.cell?, h]
theorem n4_f (h : w.heap[b]? = some (.cells #[x0, x1, x2, x3] t (0, 0))) (i : Nat) : w.frozen? ⟨b, i, none⟩ = false := by simp [World.frozen?, h]
theorem n4_set3 (h : w.heap[b]? = some (.cells #[x0, x1, x2, x3] t (0, 0))) (a3 : Value) : (w.setCell ⟨b, 3, none⟩ a3).heap[b]? = some (.cells #[x0, x1, x2, a3] t (0, 0)) := by
  simp [World.setCell, Array.getElem?_modify, h]
theorem n4_setAll (h : w.heap[b]? = some (.cells #[x0, x1, x2, x3] t (0, 0))) (a0 a1 a2 a3 : Value) :
    ((((w.setCell ⟨b, 0, none⟩ a0).setCell ⟨b, 1, none⟩ a1).setCell ⟨b, 2, none⟩ a2).setCell ⟨b, 3, none⟩ a3).heap[b]? = some (.cells #[a0, a1, a2, a3] t (0, 0)) := by
  simp [World.setCell, Array.getElem?_modify, h]
theorem n4_below {lo : Nat} {W : World} (hb : Below lo W w) (hlo : lo ≤ b) (a0 a1 a2 a3 : Value) : Below lo W ((((w.setCell ⟨b, 0, none⟩ a0).setCell ⟨b, 1, none⟩ a1).setCell ⟨b, 2, none⟩ a2).setCell ⟨b, 3, none⟩ a3) :=
  (((hb.setCell (p := ⟨b, 0, none⟩) hlo a0).setCell (p := ⟨b, 1, none⟩) hlo a1).setCell (p := ⟨b, 2, none⟩) hlo a2).setCell (p := ⟨b, 3, none⟩) hlo a3
theorem n4_other (a0 a1 a2 a3 : Value) {k : Nat} (hk : k ≠ b) : ((((w.setCell ⟨b, 0, none⟩ a0).setCell ⟨b, 1, none⟩ a1).setCell ⟨b, 2, none⟩ a2).setCell ⟨b, 3, none⟩ a3).heap[k]? = w.heap[k]? := by
  rw [heap_setCell_other _ _ _ _ hk, heap_setCell_other _ _ _ _ hk, heap_setCell_other _ _ _ _ hk, heap_setCell_other _ _ _ _ hk]
end
end Go.Proofs.Ytkdlakcmhdiojaa
