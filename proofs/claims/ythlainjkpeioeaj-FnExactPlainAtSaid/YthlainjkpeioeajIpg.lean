/- What PlainAt's own variables hold between two rounds, and how the pieces grow in a round. -/
import Derived.Test.YthlainjkpeioeajItr
import Derived.Test.YthlainjkpeioeajSph
import Derived.Test.YthlainjkpeioeajAzr
namespace Go.Proofs.Ythlainjkpeioeaj
open Go.ChangeShapes Go.WideShapes Go.ChangeAt Go.RowKit Go.Shelf Go.Deep
/-- What isn't a block of pieces, and isn't the block B, lies as it lay. -/
structure Kq (B : Nat) (A A' : World) : Prop where
  size : A.heap.size ≤ A'.heap.size
  same : ∀ (k : Nat) (o : Obj), A.heap[k]? = some o → (∀ c fz, o ≠ Obj.cells c 55 fz) → k ≠ B → A'.heap[k]? = some o
theorem row_type {W : World} {lo : Nat} {v : Value} {n : Nat} {xs : List Value} (h : W.ownsRow lo 55 2 v n xs) {b : Nat} {o : Obj} (hb : W.heap[b]? = some o) (ho : ∀ c fz, o ≠ Obj.cells c 55 fz) : v.ownBlock ≠ some b := by
  rcases h.2 with ⟨rfl, _⟩ | ⟨g, cap, cur, rfl, _, hg, _⟩
  · simp [Value.ownBlock]
  · intro e
    obtain rfl : g = b := by simpa [Value.ownBlock] using e
    rw [hb] at hg
    injection hg with hg
    exact ho _ _ hg
theorem cells_ne {c c' : Array Value} {t t' : TypeId} {fz fz' : Nat × Nat} (h : t ≠ t') : Obj.cells c t fz ≠ Obj.cells c' t' fz' := fun e => by injection e with _ e; exact h e
theorem row_set {W : World} {lo B : Nat} {v u x : Value} {n : Nat} {xs : List Value} {t : TypeId} (h : W.ownsRow lo 55 2 v n xs) (hb : Boxed W B t u) (ht : t ≠ 55) : (W.setCell ⟨B, 0, none⟩ x).ownsRow lo 55 2 v n xs :=
  h.kept (grownBy_setCell' W B x) (.inr (row_type h hb (fun _ _ => cells_ne ht)))
/-- The new slice goes into its variable. -/
theorem grown_in {W w' : World} {lo Bp : Nat} {v v' : Value} {ps : List Pc} {n' : Nat} {ys : List Value} (hv : Boxed W Bp 56 v) (hr : W.ownsRow lo 55 2 v ps.length (cellsC ps)) (hlo : lo ≤ Bp)
    (hown : w'.ownsRow lo 55 2 v' n' ys) (hbel : Below lo W w') (hot : ∀ b, b < W.heap.size → v.ownBlock ≠ some b → w'.heap[b]? = W.heap[b]?) :
    Boxed w' Bp 56 v ∧ Boxed (w'.setCell ⟨Bp, 0, none⟩ v') Bp 56 v' ∧ (w'.setCell ⟨Bp, 0, none⟩ v').ownsRow lo 55 2 v' n' ys ∧ Kq Bp W (w'.setCell ⟨Bp, 0, none⟩ v') ∧ Below lo W (w'.setCell ⟨Bp, 0, none⟩ v') := by
  have h1 : Boxed w' Bp 56 v := (hot Bp hv.lt (row_type hr hv (fun _ _ => cells_ne (by decide)))).trans hv
  refine ⟨h1, h1.set v', row_set hown h1 (by decide), ⟨?_, fun k o hk ho hne => ?_⟩, hbel.setCell hlo _⟩
  · have := hbel.size
    simpa [World.setCell] using this
  · rw [Below.heap_setCell _ _ _ _ (fun e => hne e), hot k (Array.getElem?_eq_some_iff.1 hk).1 (row_type hr hk ho)]
    exact hk
theorem zeros_cells (m : Nat) : (Builtin.zeroCells (Value.agg #[.string ByteArray.empty, .bool false]).cells m).toList = cellsC (List.replicate m e0) := by
  have hsz : (Value.agg #[.string ByteArray.empty, .bool false]).cells = #[.string ByteArray.empty, .bool false] := rfl
  rw [hsz]
  apply List.ext_getElem?
  intro j
  have hl : (cellsC (List.replicate m e0)).length = m * 2 := by rw [cellsC_len, List.length_replicate]
  unfold Builtin.zeroCells
  by_cases hj : j < m * 2
  · have h0 : (List.replicate m e0)[j / 2]? = some e0 := by rw [List.getElem?_replicate, if_pos (by omega)]
    have h1 := cellsC_at h0
    rcases Nat.mod_two_eq_zero_or_one j with hm | hm
    · have ej : j / 2 * 2 = j := by omega
      rw [ej] at h1
      rw [h1.1]
      simp [hj, hm, e0]
    · have ej : j / 2 * 2 + 1 = j := by omega
      rw [ej] at h1
      rw [h1.2]
      simp [hj, hm, e0]
  · rw [List.getElem?_eq_none (by simp; omega), List.getElem?_eq_none (by omega)]
theorem grow_zeros {W : World} {lo Bp : Nat} {v : Value} {ps : List Pc} (hv : Boxed W Bp 56 v) (hr : W.ownsRow lo 55 2 v ps.length (cellsC ps)) (hlo : lo ≤ Bp) (m : Nat) (hn : ps.length ≤ 2000000) (hm : m ≤ 2000000) (ty : TypeId) :
    ∃ v' w', (Builtin.append_ #[56, 3] ty #[v, .int .i64 (m : Int)]).run Try.prog W = .ok v' w' ∧ isSl' v' ∧ Boxed w' Bp 56 v ∧ Boxed (w'.setCell ⟨Bp, 0, none⟩ v') Bp 56 v' ∧
      (w'.setCell ⟨Bp, 0, none⟩ v').ownsRow lo 55 2 v' (ps ++ List.replicate m e0).length (cellsC (ps ++ List.replicate m e0)) ∧ Kq Bp W (w'.setCell ⟨Bp, 0, none⟩ v') ∧ Below lo W (w'.setCell ⟨Bp, 0, none⟩ v') := by
  obtain ⟨v', w', hrun, hsl, hown, hbel, hot⟩ := zeros_own (P := Try.prog) Try.underlying56 Try.underlying3 infoC rfl (by decide) W lo v _ _ hr m (by rw [zeros_cells]; exact one_cellsC _) (by omega) (by omega) (by omega) (by have := hv.lt; omega) ty
  have hown' : w'.ownsRow lo 55 2 v' (ps ++ List.replicate m e0).length (cellsC (ps ++ List.replicate m e0)) := by
    rw [cellsC_app, ← zeros_cells, List.length_append, List.length_replicate]
    exact hown
  exact ⟨v', w', hrun, hsl, grown_in hv hr hlo hown' hbel hot⟩
theorem grow_one {W : World} {lo Bp : Nat} {v : Value} {ps : List Pc} (hv : Boxed W Bp 56 v) (hr : W.ownsRow lo 55 2 v ps.length (cellsC ps)) (hlo : lo ≤ Bp) (x : ByteArray) (hn : ps.length ≤ 20000000) (ty : TypeId) :
    ∃ v' w', (Builtin.append_ #[56, 56] ty #[v, .slice (some ⟨W.heap.size, 0, none⟩) 1 1]).run Try.prog (W.alloc (.cells #[.string x, .bool false] 55)) = .ok v' w' ∧ isSl' v' ∧ Boxed w' Bp 56 v ∧ Boxed (w'.setCell ⟨Bp, 0, none⟩ v') Bp 56 v' ∧
      (w'.setCell ⟨Bp, 0, none⟩ v').ownsRow lo 55 2 v' (ps ++ [(x, false)]).length (cellsC (ps ++ [(x, false)])) ∧ Kq Bp W (w'.setCell ⟨Bp, 0, none⟩ v') ∧ Below lo W (w'.setCell ⟨Bp, 0, none⟩ v') := by
  obtain ⟨v', w', hrun, hsl, hown, hbel, hot⟩ := push_own (P := Try.prog) Try.underlying56 infoC rfl (by decide) W lo v _ _ hr #[.string x, .bool false] rfl (by intro u hu; simp at hu; rcases hu with rfl | rfl <;> rfl) (by omega) (by omega) (by have := hv.lt; omega) ty
  have hown' : w'.ownsRow lo 55 2 v' (ps ++ [(x, false)]).length (cellsC (ps ++ [(x, false)])) := by
    rw [cellsC_snoc, List.length_append]
    exact hown
  exact ⟨v', w', hrun, hsl, grown_in hv hr hlo hown' hbel hot⟩
/-- What PlainAt's own variables hold: the pieces, the end, the text; the iterator's boxes are as at the loop's beginning. -/
structure InvP (w w3 : World) (s : ByteArray) (Bp : Nat) (ps : List Pc) (e : Nat) (W : World) : Prop where
  pcs : ∃ v, Boxed W Bp 56 v ∧ W.ownsRow w.heap.size 55 2 v ps.length (cellsC ps) ∧ isSl' v
  ende : Boxed W (Bp + 1) 3 (.int .i64 (e : Int))
  sbox : Boxed W w.heap.size 9 (.string s)
  bx : ∀ k, Bp + 2 ≤ k → k < Bp + 6 → W.heap[k]? = w3.heap[k]?
  below : Below w.heap.size w W
theorem InvP.own {w w3 : World} {s : ByteArray} {Bp : Nat} (hBp : w.heap.size < Bp) (hw3 : w3.heap.size = Bp + 6) {β : Type} (f : β → List Pc) (g : β → Nat) : OwnFrom w3.heap.size (fun pre W => InvP w w3 s Bp (f pre) (g pre) W) := by
  intro pre W W' row ⟨⟨v, h1, h2, h3⟩, h4, h5, h6, h7⟩ hg hr
  have ne : ∀ k, k < w3.heap.size → some k ≠ row := fun k hk e => by have := (hr k e.symm).1; omega
  refine ⟨⟨v, h1.kept hg (ne _ (by omega)), h2.kept hg ?_, h3⟩, h4.kept hg (ne _ (by omega)), h5.kept hg (ne _ (by omega)), fun k k1 k2 => ?_, ?_⟩
  · cases row with
    | none => cases v.ownBlock <;> simp
    | some r =>
      obtain ⟨_, o, ho, hoc⟩ := hr r rfl
      exact .inr (row_type h2 ho (fun c fz e => by rw [e] at hoc; cases hoc))
  · have hlt : k < W.heap.size := by
      rcases Nat.lt_or_ge k W.heap.size with h | h
      · exact h
      · have a1 := h6 k k1 k2
        rw [Array.getElem?_eq_none h, Array.getElem?_eq_getElem (by omega)] at a1
        cases a1
    rw [hg.block k hlt (ne k (by omega))]
    exact h6 k k1 k2
  · exact h7.grown hg h7.size (fun k e => by have := (hr k e).1; omega)
theorem InvP.turns {w w3 : World} {s : ByteArray} {Bp : Nat} (hBp : w.heap.size < Bp) (hw3 : w3.heap.size = Bp + 6) {ps : List Pc} {e : Nat} {A A' : World} (h : InvP w w3 s Bp ps e A) (ht : Turns 62 w3.heap.size A A') : InvP w w3 s Bp ps e A' := by
  obtain ⟨⟨v, h1, h2, h3⟩, h4, h5, h6, h7⟩ := h
  have bxs : ∀ {B : Nat} {t : TypeId} {u : Value}, B < w3.heap.size → Boxed A B t u → Boxed A' B t u := fun hB hb => ht.same _ _ hb (.inl hB)
  refine ⟨⟨v, bxs (by omega) h1, ⟨h2.1, ?_⟩, h3⟩, bxs (by omega) h4, bxs (by omega) h5, fun k k1 k2 => ?_, ?_⟩
  · rcases h2.2 with hn | ⟨g, cap, cur, rfl, hb, hgg, rest⟩
    · exact .inl hn
    · exact .inr ⟨g, cap, cur, rfl, hb, ht.same _ _ hgg (.inr (fun _ _ => cells_ne (by decide))), rest⟩
  · have hk : k < w3.heap.size := by omega
    have a1 := h6 k k1 k2
    rw [Array.getElem?_eq_getElem hk] at a1
    rw [ht.same _ _ a1 (.inl hk), Array.getElem?_eq_getElem hk]
  · exact h7.trans (ht.below (by omega) h7.size)
theorem KpB.trans {b : Nat} {A B C : World} (h : KpB b A B) (k : KpB b B C) : KpB b A C := ⟨fun i h1 h2 => (k.box i h1 h2).trans (h.box i h1 h2), fun i c fz hi => k.own i c fz (h.own i c fz hi)⟩
theorem KpB.put {b : Nat} {W : World} {l : Nat} {o o' : Obj} (hl : b + 4 ≤ l) (h : W.heap[l]? = some o) (ho : o.isCells = false) : KpB b W (W.putObj l o') :=
  ⟨fun k _ h2 => World.putObj_heap_other (by omega), fun k c fz hk => by
    have hne : k ≠ l := by
      intro e
      subst e
      rw [hk] at h
      injection h with h
      rw [← h] at ho
      cases ho
    rw [World.putObj_heap_other (fun e => hne (by omega))]
    exact hk⟩
/-- Behind a round's body. -/
theorem Kq.rest {Bp : Nat} {w w3 : World} {s : ByteArray} {ps : List Pc} {e : Nat} {A A' : World} (hi : InvP w w3 s Bp ps e A) (h : Kq Bp A A') (hb3 : ∀ k, Bp + 2 ≤ k → k < Bp + 6 → ∃ o, w3.heap[k]? = some o ∧ ∀ c fz, o ≠ Obj.cells c 55 fz) : KeepsOthers A A' ∧ KpB (Bp + 2) A A' := by
  obtain ⟨⟨v, h1, h2, h3⟩, h4, h5, h6, h7⟩ := hi
  refine ⟨⟨h.size, fun k o hk ho => h.same k o hk (fun c fz e => by rw [e] at ho; cases ho) ?_⟩, ⟨fun k k1 k2 => ?_, fun k c fz hk => h.same k _ hk (fun _ _ => cells_ne (by decide)) ?_⟩⟩
  · intro e
    subst e
    rw [show A.heap[k]? = _ from h1] at hk
    injection hk with hk
    rw [← hk] at ho
    cases ho
  · obtain ⟨o, ho, hn⟩ := hb3 k k1 (by omega)
    have ha := (h6 k k1 (by omega)).trans ho
    rw [h.same k o ha hn (by omega), ha]
  · intro e
    subst e
    rw [show A.heap[k]? = _ from h1] at hk
    injection hk with hk
    exact cells_ne (by decide) hk
theorem Kq.trans {B : Nat} {A A' A'' : World} (h : Kq B A A') (k : Kq B A'.drew A'') : Kq B A A'' := ⟨Nat.le_trans h.size k.size, fun i o hi ho hne => k.same i o (h.same i o hi ho hne) ho hne⟩
/-- The end of a round. -/
theorem round_end {w w3 : World} {s : ByteArray} {Bp : Nat} {ps qs : List Pc} {e xe : Nat} {W W7 W9 : World} {v9 : Value} (hi : InvP w w3 s Bp ps e W) (hlt : w.heap.size < Bp) (htyp : ∀ j, Bp + 2 ≤ j → j < Bp + 6 → ∃ o, w3.heap[j]? = some o ∧ ∀ c fz, o ≠ Obj.cells c 55 fz)
    (q7 : Kq Bp W W7) (l7 : Below w.heap.size W W7) (q9 : Kq Bp W7.drew W9) (l9 : Below w.heap.size W7.drew W9) (hv : Boxed W9 Bp 56 v9) (hsl : isSl' v9) (hr : W9.ownsRow w.heap.size 55 2 v9 qs.length (cellsC qs)) :
    KeepsOthers W (W9.setCell ⟨Bp + 1, 0, none⟩ (.int .i64 (xe : Int))) ∧ KpB (Bp + 2) W (W9.setCell ⟨Bp + 1, 0, none⟩ (.int .i64 (xe : Int))) ∧ InvP w w3 s Bp qs xe (W9.setCell ⟨Bp + 1, 0, none⟩ (.int .i64 (xe : Int))) := by
  have q := q7.trans q9
  obtain ⟨k1, k2⟩ := q.rest hi htyp
  have he : Boxed W9 (Bp + 1) 3 (.int .i64 (e : Int)) := q.same _ _ hi.ende (fun _ _ => cells_ne (by decide)) (by omega)
  have hs : Boxed W9 w.heap.size 9 (.string s) := q.same _ _ hi.sbox (fun _ _ => cells_ne (by decide)) (by omega)
  refine ⟨k1.trans (KeepsOthers.setCell _ _ _), ⟨fun j h1 h2 => ?_, fun j c fz hj => ?_⟩, ⟨⟨v9, hv.other (by omega) _, row_set hr he (by decide), hsl⟩, he.set _, hs.other (by omega) _, fun j h1 h2 => ?_, ?_⟩⟩
  · rw [Below.heap_setCell _ _ _ _ (show j ≠ Bp + 1 by omega)]
    exact k2.box j h1 h2
  · have hj9 := k2.own j c fz hj
    have hne : j ≠ Bp + 1 := by
      intro e
      subst e
      rw [show W9.heap[Bp + 1]? = _ from he] at hj9
      injection hj9 with hj9
      exact cells_ne (by decide) hj9
    rw [Below.heap_setCell _ _ _ _ hne]
    exact hj9
  · rw [Below.heap_setCell _ _ _ _ (show j ≠ Bp + 1 by omega), k2.box j h1 (by omega)]
    exact hi.bx j h1 h2
  · exact ((hi.below.trans l7).drew.trans l9).setCell (p := ⟨Bp + 1, 0, none⟩) (by show w.heap.size ≤ Bp + 1; omega) _
end Go.Proofs.Ythlainjkpeioeaj
