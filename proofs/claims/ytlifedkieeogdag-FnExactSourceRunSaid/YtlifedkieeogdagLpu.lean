/- One page put behind pages that lie anywhere: what is appended to, in place or into a new row; every other block is as it was. -/
import Derived.Test.YtlifedkieeogdagSby
import Derived.Deep.AppendSrc
import Derived.Deep.Upon
namespace Go.Proofs.Ytlifedkieeogdag
open Go.Maps Go.RowKit Go.Deep
theorem last_push {lo g off n cap : Nat} {w : World} {rs : List Pv} {x : Int} {d : Value} (hn : rs.length = n) (hcap : n ≤ cap) (hn6 : n ≤ 100) (hg : lo ≤ g) (hgw : g < w.heap.size)
    (holds : ∀ i p, rs[i]? = some p → w.cell? ⟨g, off + i * 2, none⟩ = some (.int .i64 p.1) ∧ w.cell? ⟨g, off + i * 2 + 1, none⟩ = some p.2)
    (hspare : ∀ j, j < (cap - n) * 2 → (w.cell? ⟨g, off + n * 2 + j, none⟩).isSome = true ∧ w.frozen? ⟨g, off + n * 2 + j, none⟩ = false)
    (hd : isSl d) (ty2 : TypeId) :
    ∃ v2 w2, (Builtin.append_ #[27, 27] ty2 #[.slice (some ⟨g, off, none⟩) n cap, .slice (some ⟨w.heap.size, 0, none⟩) 1 1]).run Try.prog (w.alloc (.cells #[.int .i64 x, d] 51)) = .ok v2 w2 ∧
      SlP w2.heap.size w2 v2 (rs ++ [(x, d)]) ∧ isSl v2 ∧ Below lo w w2 ∧ (∀ b, b < w.heap.size → b ≠ g → w2.heap[b]? = w.heap[b]?) ∧ (∃ b o c, v2 = .slice (some ⟨b, o, none⟩) (n + 1) c ∧ lo ≤ b) := by
  obtain ⟨ti, hti, hz0, hz1, hz2⟩ := info_parts infoPg
  have hd1 : d.oneCell' = true := by obtain ⟨a, n, c, rfl⟩ := hd; rfl
  have hBa : Below w.heap.size w (w.alloc (.cells #[.int .i64 x, d] 51)) := (Below.refl _ w).alloc (Nat.le_refl _) _
  have hsz : (w.alloc (.cells #[.int .i64 x, d] 51)).heap.size = w.heap.size + 1 := by simp
  have hsrc : Src Try.prog ti.size 27 (.slice (some ⟨w.heap.size, 0, none⟩) 1 1) 1 [.int .i64 x, d] (w.alloc (.cells #[.int .i64 x, d] 51)) := by
    refine Src.ofSlice _ Try.underlying27 ⟨w.heap.size, 0, none⟩ 1 1 [.int .i64 x, d] (by rw [hz1]; rfl) (World.news_of_block (cs := #[.int .i64 x, d]) (t := 51) (fr := (0, 0)) (heap_alloc_new w _)) ?_
    intro u hu; simp at hu; rcases hu with rfl | rfl
    · rfl
    · exact hd1
  have holda : ∀ i p, rs[i]? = some p → (w.alloc (.cells #[.int .i64 x, d] 51)).cell? ⟨g, off + i * 2, none⟩ = some (.int .i64 p.1) ∧ (w.alloc (.cells #[.int .i64 x, d] 51)).cell? ⟨g, off + i * 2 + 1, none⟩ = some p.2 := by
    intro i p h
    rw [hBa.cell (by exact hgw), hBa.cell (by exact hgw)]
    exact holds i p h
  generalize hwa : w.alloc (.cells #[.int .i64 x, d] 51) = wa at *
  by_cases hroom : n + 1 ≤ cap
  · have hr := run_append_room_src (P := Try.prog) wa 27 27 ty2 51 ti Try.underlying27 hti g off n cap (.slice (some ⟨w.heap.size, 0, none⟩) 1 1) 1 [.int .i64 x, d] hsrc hroom
      (fun j hj => by
        rw [hz1, hBa.cell (by exact hgw)]
        exact (hspare j (by simp at hj; omega)).1)
      (fun j hj => by
        rw [hz1, hBa.frozen (by exact hgw)]
        exact (hspare j (by simp at hj; omega)).2)
    rw [hz1] at hr
    have hoth : ∀ b, b < wa.heap.size → b ≠ g → (wa.setCells g (off + n * 2) [.int .i64 x, d]).heap[b]? = wa.heap[b]? := fun b hb hne => World.heap_setCells_other _ _ _ _ hb hne
    have hB2 : Below lo w (wa.setCells g (off + n * 2) [.int .i64 x, d]) := by
      show Below lo w ((wa.setCell ⟨g, off + n * 2, none⟩ (.int .i64 x)).setCell ⟨g, off + n * 2 + 1, none⟩ d)
      exact ((hBa.mono (by omega)).setCell hg _).setCell hg _
    have hge : wa.heap.size ≤ (wa.setCells g (off + n * 2) [.int .i64 x, d]).heap.size := by
      have : Below 0 wa ((wa.setCell ⟨g, off + n * 2, none⟩ (.int .i64 x)).setCell ⟨g, off + n * 2 + 1, none⟩ d) := ((Below.refl 0 wa).setCell (Nat.zero_le _) _).setCell (Nat.zero_le _) _
      exact this.size
    refine ⟨_, _, hr, ?_, ⟨_, _, _, rfl⟩, hB2, fun b hb hne => (hoth b (by omega) hne).trans (hBa.block b hb), ⟨g, off, cap, rfl, hg⟩⟩
    refine .inr ⟨by simp, g, off, cap, by rw [List.length_append, hn]; rfl, by omega, by rw [List.length_append, hn]; exact hroom, ?_⟩
    intro i p hp
    by_cases hi : i < n
    · have hp' : rs[i]? = some p := by rw [List.getElem?_append_left (by omega)] at hp; exact hp
      rw [World.cell?_setCells_out _ _ _ _ _ (fun _ _ => .inl (by show off + i * 2 < off + n * 2; omega)), World.cell?_setCells_out _ _ _ _ _ (fun _ _ => .inl (by show off + i * 2 + 1 < off + n * 2; omega))]
      exact holda i p hp'
    · have hi2 : i = n := by
        have : i < (rs ++ [(x, d)]).length := by
          rcases Nat.lt_or_ge i (rs ++ [(x, d)]).length with h | h
          · exact h
          · rw [List.getElem?_eq_none h] at hp; cases hp
        simp at this; omega
      subst hi2
      have hp2 : p = (x, d) := by
        rw [List.getElem?_append_right (by omega), hn] at hp
        simpa using hp.symm
      subst hp2
      have hin := World.cell?_setCells_in g [.int .i64 x, d] (off + i * 2) wa (fun j hj => by
        rw [hBa.cell (by exact hgw)]
        exact (hspare j (by simp at hj; omega)).1)
      exact ⟨hin 0 (by simp), hin 1 (by simp)⟩
  · have hcn : cap = n := by omega
    subst hcn
    have hadd : ∀ j, (⟨g, off, none⟩ : Addr).add j = ⟨g, off + j, none⟩ := fun j => by unfold Addr.add; split <;> simp_all
    have hcl : ∀ j u, (cellsP rs)[j]? = some u → wa.cell? ⟨g, off + j, none⟩ = some u := by
      intro j u hu
      have hj : j < rs.length * 2 := by
        rw [← cellsP_len]
        rcases Nat.lt_or_ge j (cellsP rs).length with h | h
        · exact h
        · rw [List.getElem?_eq_none h] at hu; cases hu
      obtain ⟨p, hp⟩ : ∃ p, rs[j / 2]? = some p := ⟨_, List.getElem?_eq_getElem (by omega)⟩
      obtain ⟨c1, c2⟩ := cellsP_at hp
      obtain ⟨h1, h2⟩ := holda (j / 2) p hp
      rcases (show j = j / 2 * 2 ∨ j = j / 2 * 2 + 1 by omega) with e | e
      · rw [e] at hu; rw [c1] at hu; rw [e, h1]; exact hu
      · rw [e] at hu; rw [c2] at hu; rw [e, ← Nat.add_assoc, h2]; exact hu
    have hold := run_firstCells_some (P := Try.prog) wa.drew ti.size cap ⟨g, off, none⟩ cap cap (cellsP rs) (by rw [hz1, cellsP_len, hn]) (fun j u hu => by rw [hadd]; exact hcl j u hu)
    have hr := run_append_grow_src (P := Try.prog) wa 27 27 ty2 51 ti _ Try.underlying27 hti hz0 (some ⟨g, off, none⟩) cap cap (cellsP rs) hold (.slice (some ⟨w.heap.size, 0, none⟩) 1 1) 1 [.int .i64 x, d] hsrc (by omega) (by omega) (growslice_fits (by omega) (by rw [hz2]; omega))
    have hcge := grownCap_ge wa (cap + 1) cap 51
    refine ⟨_, _, hr, ?_, ⟨_, _, _, rfl⟩, ?_, ?_, ⟨wa.heap.size, 0, _, rfl, by omega⟩⟩
    · refine .inr ⟨by simp, wa.heap.size, 0, _, by rw [List.length_append, hn]; rfl, by simp, by rw [List.length_append, hn]; exact hcge, ?_⟩
      intro i p hp
      have hi : i < (rs ++ [(x, d)]).length := by
        rcases Nat.lt_or_ge i (rs ++ [(x, d)]).length with h | h
        · exact h
        · rw [List.getElem?_eq_none h] at hp; cases hp
      have hc := cellsP_at hp
      have hce : cellsP (rs ++ [(x, d)]) = cellsP rs ++ [.int .i64 x, d] := by simp [cellsP]
      have hlen : (cellsP (rs ++ [(x, d)])).length = (rs ++ [(x, d)]).length * 2 := cellsP_len _
      rw [hce] at hc hlen
      have hnew : ∀ j, j < (rs ++ [(x, d)]).length * 2 → (wa.drew.alloc (.cells ((cellsP rs ++ [.int .i64 x, d]).toArray ++ Builtin.zeroCells (Value.agg #[.int .i64 0, .slice none 0 0]).cells (grownCap wa (cap + 1) cap 51 - (cap + 1))) 51)).cell? ⟨wa.heap.size, 0 + j, none⟩ = (cellsP rs ++ [.int .i64 x, d])[j]? := by
        intro j hj
        rw [Nat.zero_add]
        have e1 := World.cell?_alloc_new wa.drew ((cellsP rs ++ [.int .i64 x, d]).toArray ++ Builtin.zeroCells (Value.agg #[.int .i64 0, .slice none 0 0]).cells (grownCap wa (cap + 1) cap 51 - (cap + 1))) 51 j
        refine e1.trans ?_
        rw [Array.getElem?_append_left (by simp only [List.size_toArray]; omega), List.getElem?_toArray]
      refine ⟨(hnew (i * 2) (by omega)).trans hc.1, ?_⟩
      have := hnew (i * 2 + 1) (by omega)
      rw [← Nat.add_assoc] at this
      exact this.trans hc.2
    · exact ((hBa.mono (by omega)).drew).alloc (by show lo ≤ wa.heap.size; omega) _
    · intro b hb _
      exact (Below.heap_alloc wa.drew _ b (by show b < wa.heap.size; omega)).trans (hBa.block b hb)
end Go.Proofs.Ytlifedkieeogdag
