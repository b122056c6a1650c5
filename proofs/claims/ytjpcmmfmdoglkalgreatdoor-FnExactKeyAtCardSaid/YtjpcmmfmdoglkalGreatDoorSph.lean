/- Rows of pieces of the call's own. -/
import Derived.Test.YtjpcmmfmdoglkalGreatDoorSpr
import Derived.Test.YtjpcmmfmdoglkalGreatDoorSff
namespace Go.Proofs.YtjpcmmfmdoglkalGreatDoor
open Go.ChangeShapes Go.WideShapes Go.ChangeAt Go.RowKit Go.Deep
theorem own_one (w : World) (lo : Nat) (x : ByteArray) (hlo : lo ≤ w.heap.size) : (w.alloc (.cells #[.string x, .bool false] 92)).ownsRow lo 92 2 (.slice (some ⟨w.heap.size, 0, none⟩) 1 1) [(x, false)].length (cellsC [(x, false)]) :=
  ⟨rfl, .inr ⟨w.heap.size, 1, #[.string x, .bool false], rfl, hlo, new_block w _, Nat.le_refl _, by unfold maxLen; omega, rfl, rfl⟩⟩
theorem slc_row {lo : Nat} {w : World} {v : Value} {ps : List Pc} (h : w.ownsRow lo 92 2 v ps.length (cellsC ps)) : SlC w v ps := by
  by_cases hz : ps = []
  · subst hz
    left
    rcases h.2 with ⟨e, _⟩ | ⟨g, cap, cur, e, _⟩
    · exact ⟨rfl, _, _, e⟩
    · exact ⟨rfl, _, _, e⟩
  · right
    have hpos : 0 < ps.length := List.length_pos_iff.2 hz
    rcases h.2 with ⟨_, e⟩ | ⟨g, cap, cur, rfl, hb, hg, hn, hm, hs, ht⟩
    · omega
    · refine ⟨hz, g, 0, cap, rfl, (Array.getElem?_eq_some_iff.1 hg).1, fun i p hi => ?_⟩
      have h1 := h.cells (g := g) rfl (i * 2) _ (cellsC_at hi).1
      have h2 := h.cells (g := g) rfl (i * 2 + 1) _ (cellsC_at hi).2
      rw [add0] at h1 h2
      rw [Nat.zero_add]
      exact ⟨h1, h2⟩
end Go.Proofs.YtjpcmmfmdoglkalGreatDoor
