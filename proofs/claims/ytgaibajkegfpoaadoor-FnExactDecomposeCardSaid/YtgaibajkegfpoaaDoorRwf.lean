/- A row of events is a list of events; a row beside another one. -/
import Derived.Test.YtgaibajkegfpoaaDoorTme
namespace Go.Proofs.YtgaibajkegfpoaaDoor
open Go.RowKit
theorem rowsE_at : ∀ (es : List Ev) (i : Nat) (e : Ev), es[i]? = some e → ∀ j u, e.row[j]? = some u → (rowsE es)[i * 8 + j]? = some u
  | [], i, e, h => by simp at h
  | x :: t, 0, e, h => by
    intro j u hu
    obtain rfl : x = e := by simpa using h
    have hj : j < 8 := by
      rcases Nat.lt_or_ge j 8 with h' | h'
      · exact h'
      · rw [Array.getElem?_eq_none (by exact h')] at hu; cases hu
    rw [Nat.zero_mul, Nat.zero_add]
    show (x.row.toList ++ rowsE t)[j]? = some u
    rw [List.getElem?_append_left (by show j < 8; exact hj)]
    rw [← hu]
    simp
  | x :: t, i + 1, e, h => by
    intro j u hu
    have ih := rowsE_at t i e (by simpa using h) j u hu
    show (x.row.toList ++ rowsE t)[(i + 1) * 8 + j]? = some u
    rw [List.getElem?_append_right (by show 8 ≤ _; omega)]
    rw [show (i + 1) * 8 + j - x.row.toList.length = i * 8 + j by show (i + 1) * 8 + j - 8 = _; omega]
    exact ih
theorem slE_row {w : World} {lo : Nat} {v : Value} {es : List Ev} (h : w.ownsRow lo 44 8 v es.length (rowsE es)) : SlE w v es := by
  by_cases hz : es = []
  · subst hz
    left
    rcases h.2 with ⟨e, _⟩ | ⟨g, cap, cur, e, _⟩
    · exact ⟨rfl, _, _, e⟩
    · exact ⟨rfl, _, _, e⟩
  · right
    have hpos : 0 < es.length := List.length_pos_iff.2 hz
    rcases h.2 with ⟨_, e⟩ | ⟨g, cap, cur, rfl, hb, hg, hn, hm, hs, ht⟩
    · omega
    · refine ⟨hz, g, 0, cap, rfl, (Array.getElem?_eq_some_iff.1 hg).1, hn, fun i e hi j u hu => ?_⟩
      have hx := rowsE_at es i e hi j u hu
      have h1 := h.cells (g := g) rfl (i * 8 + j) _ hx
      have hadd : (⟨g, 0, none⟩ : Addr).add (i * 8 + j) = ⟨g, 0 + i * 8 + j, none⟩ := by unfold Addr.add; split <;> simp_all
      rw [hadd] at h1
      exact h1
theorem SlE.far {w w' : World} {v v' : Value} {lo : Nat} {es : List Ev} (h : w.ownsRow lo 44 8 v es.length (rowsE es)) {B : Nat} (hB : ∀ b, v.ownBlock = some b → b < B) (hg : w.grownBy w' v'.ownBlock) (hf : ∀ b, v'.ownBlock = some b → B ≤ b) : w'.ownsRow lo 44 8 v es.length (rowsE es) := by
  refine ⟨h.1, ?_⟩
  rcases h.2 with hn | ⟨g, cap, cur, rfl, hlo, hgg, rest⟩
  · exact .inl hn
  · refine .inr ⟨g, cap, cur, rfl, hlo, ?_, rest⟩
    rw [hg.block g (Array.getElem?_eq_some_iff.1 hgg).1 (fun e => by have h1 := hB g rfl; have h2 := hf g e.symm; omega)]
    exact hgg
end Go.Proofs.YtgaibajkegfpoaaDoor
