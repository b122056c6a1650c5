/- The top of a row that the call owns: read, written, taken off, and one more put on it. -/
import Derived.Test.YtmbbmibkjnlkkaaDoorPsh
namespace Go.Proofs.YtmbbmibkjnlkkaaDoor
open Go.RowKit
theorem row_top {w : World} {lo : Nat} {e : TypeId} {v : Value} {n : Nat} {ys : List Value} {u : Value} (h : w.ownsRow lo e 1 v n (ys ++ [u])) :
    ∃ g c, v = .slice (some ⟨g, 0, none⟩) (ys.length + 1) c ∧ n = ys.length + 1 ∧ lo ≤ g ∧ g < w.heap.size ∧ n ≤ c ∧ w.cell? ⟨g, ys.length, none⟩ = some u ∧ w.frozen? ⟨g, ys.length, none⟩ = false ∧
      (∀ u', (w.setCell ⟨g, ys.length, none⟩ u').ownsRow lo e 1 v n (ys ++ [u'])) ∧ w.ownsRow lo e 1 (.slice (some ⟨g, 0, none⟩) ys.length c) ys.length ys := by
  have hl := h.1
  simp at hl
  rcases h.2 with ⟨_, hn⟩ | ⟨g, cap, cur, rfl, hb, hg, hn, hm, hs, ht⟩
  · omega
  · have hc : cur[ys.length]? = some u := by
      have h1 : (cur.toList.take (n * 1))[ys.length]? = some u := by rw [ht]; simp
      rw [List.getElem?_take, if_pos (by omega)] at h1
      simpa using h1
    have hsz : cur.size = cap := by omega
    refine ⟨g, cap, by rw [← hl], hl.symm, hb, (Array.getElem?_eq_some_iff.1 hg).1, hn, ?_, ?_, fun u' => ?_, ?_⟩
    · simp [World.cell?, hg, hc]
    · simp [World.frozen?, hg]
    · refine ⟨by simp; omega, .inr ⟨g, cap, cur.setIfInBounds ys.length u', rfl, hb, ?_, hn, hm, by simp; omega, ?_⟩⟩
      · simp [World.setCell, Array.getElem?_modify, hg]
      · apply List.ext_getElem?
        intro j
        have h2 : (cur.toList.take (n * 1))[j]? = (ys ++ [u])[j]? := by rw [ht]
        rw [List.getElem?_take] at h2 ⊢
        by_cases hj : j < n * 1
        · rw [if_pos hj] at h2 ⊢
          rw [Array.getElem?_toList, Array.getElem?_setIfInBounds]
          rw [Array.getElem?_toList] at h2
          by_cases hjl : ys.length = j
          · rw [if_pos hjl, if_pos (by omega), List.getElem?_append_right (by omega), ← hjl]
            simp
          · rw [if_neg hjl, h2, List.getElem?_append_left (by omega), List.getElem?_append_left (by omega)]
        · rw [if_neg hj, List.getElem?_eq_none (by simp; omega)]
    · refine ⟨by omega, .inr ⟨g, cap, cur, rfl, hb, hg, by omega, hm, hs, ?_⟩⟩
      have h3 : cur.toList.take (ys.length * 1) = (cur.toList.take (n * 1)).take ys.length := by
        rw [List.take_take]
        congr 1
        omega
      rw [h3, ht]
      simp
/-- A row with nothing in it. -/
theorem row_none {w : World} {lo : Nat} {e : TypeId} {v : Value} {n : Nat} (h : w.ownsRow lo e 1 v n []) : n = 0 ∧ ∃ a c, v = .slice a 0 c := by
  have hl := h.1
  simp at hl
  subst hl
  refine ⟨rfl, ?_⟩
  rcases h.2 with ⟨rfl, _⟩ | ⟨g, cap, cur, rfl, _⟩
  · exact ⟨_, _, rfl⟩
  · exact ⟨_, _, rfl⟩
/-- All that was there stays. -/
theorem row_stays {w w' : World} {lo : Nat} {e : TypeId} {sz : Nat} {v : Value} {n : Nat} {xs : List Value} (h : w.ownsRow lo e sz v n xs) (hb : Below w.heap.size w w') : w'.ownsRow lo e sz v n xs :=
  row_same h (fun k _ hk => hb.block k hk)
end Go.Proofs.YtmbbmibkjnlkkaaDoor
