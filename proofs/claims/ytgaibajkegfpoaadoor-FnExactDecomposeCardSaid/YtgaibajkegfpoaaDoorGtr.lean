/- The specification's teller in memory. -/
import Derived.Test.YtgaibajkegfpoaaDoorZqf
import Derived.Test.YtgaibajkegfpoaaDoorZqi
import Derived.Test.YtgaibajkegfpoaaDoorRwf
import Derived.Test.YtgaibajkegfpoaaDoorTme
namespace Go.Proofs.YtgaibajkegfpoaaDoor
open Go.ChangeShapes Go.WideShapes Go.ChangeAt Go.RowKit Go.Deep
theorem infoEg : (Tryd.prog.info? 44).map (fun i => (i.zero, i.size, i.bytes)) = some (some (.agg #[.int .i64 0, .int .i64 0, .bool false, .string ⟨#[]⟩, .string ⟨#[]⟩, .string ⟨#[]⟩, .int .i64 0, .int .i64 0]), 8, 88) := by kernel_rfl
theorem rowsE_snocG (es : List Ev) (e : Ev) : rowsE (es ++ [e]) = rowsE es ++ e.row.toList := by rw [rowsE_app]; unfold rowsE; simp
theorem row1 (e : Ev) : ∀ u ∈ e.row.toList, u.oneCell' = true := by
  intro u hu
  unfold Ev.row at hu
  simp at hu
  rcases hu with rfl | rfl | rfl | rfl | rfl | rfl | rfl | rfl <;> rfl
/-- One event comes behind a list of the call's own. -/
theorem push_ev (w : World) (lo : Nat) (v : Value) (es : List Ev) (e : Ev) (hown : w.ownsRow lo 44 8 v es.length (rowsE es)) (hl : es.length ≤ 100000000) (hlo : lo ≤ w.heap.size) :
    ∃ a n c w', (Builtin.append_ #[27, 27] 27 #[v, .slice (some ⟨w.heap.size, 0, none⟩) 1 1]).run Tryd.prog (w.alloc (.cells e.row 44)) = .ok (.slice a n c) w' ∧ w'.ownsRow lo 44 8 (.slice a n c) (es ++ [e]).length (rowsE (es ++ [e])) ∧ Below lo w w' ∧ (∀ b, b < w.heap.size → v.ownBlock ≠ some b → w'.heap[b]? = w.heap[b]?) := by
  obtain ⟨v5, w5, hrun5, hsl5, hown5, hbel5, hot5, hid5⟩ := push_own2 (P := Tryd.prog) Tryd.underlying27 infoEg rfl (by decide) w lo v es.length (rowsE es) hown e.row rfl (row1 e) hl (by omega) hlo 27
  obtain ⟨a5, n5, c5, rfl⟩ := hsl5
  refine ⟨a5, n5, c5, w5, hrun5, ?_, hbel5, hot5⟩
  rw [List.length_append, rowsE_snocG]
  exact hown5
def tlB (N : Nat) (met : List Nat) : List Bool := (List.range N).map (fun i => decide (i ∈ met))
theorem tlB_len (N : Nat) (met : List Nat) : (tlB N met).length = N := by unfold tlB; simp
theorem tlB_getD {N : Nat} {met : List Nat} {i : Nat} (h : i < N) : (tlB N met).getD i false = decide (i ∈ met) := by
  unfold tlB
  simp [List.getD, h]
theorem tlB_set {N : Nat} {met : List Nat} {i : Nat} (h : i < N) : (tlB N met).set i true = tlB N (met ++ [i]) := by
  apply List.ext_getElem?
  intro j
  by_cases hj : j < N
  · rw [List.getElem?_set, tlB_len]
    unfold tlB
    rw [List.getElem?_map, List.getElem?_range hj]
    by_cases e : i = j
    · subst e
      rw [if_pos rfl, if_pos h, List.getElem?_map, List.getElem?_range hj]
      simp
    · rw [if_neg e, List.getElem?_map, List.getElem?_range hj]
      simp only [Option.map_some, List.mem_append, List.mem_singleton]
      congr 1
      simp only [show ¬ j = i from fun h => e h.symm, or_false]
  · rw [List.getElem?_eq_none (by rw [List.length_set, tlB_len]; omega), List.getElem?_eq_none (by rw [tlB_len]; omega)]
/-- The specification's teller: who is shared, who was told, and what was told. -/
structure TwAt (P0 : World) (Sb Tb N : Nat) (shl : List Bool) (t : Td) (ov : Value) (w : World) : Prop where
  sh : w.ownsRow P0.heap.size 4 1 (.slice (some ⟨Sb, 0, none⟩) N N) N (blV shl)
  told : w.ownsRow P0.heap.size 4 1 (.slice (some ⟨Tb, 0, none⟩) N N) N (blV (tlB N t.met))
  out : w.ownsRow P0.heap.size 44 8 ov t.out.length (rowsE t.out)
  ne : Sb ≠ Tb
  below : Below P0.heap.size P0 w
section
variable {P0 w w' : World} {Sb Tb N : Nat} {shl : List Bool} {t : Td} {ov : Value}
theorem TwAt.stays (h : TwAt P0 Sb Tb N shl t ov w) (hb : Below w.heap.size w w') : TwAt P0 Sb Tb N shl t ov w' :=
  ⟨g_row_below h.sh hb, g_row_below h.told hb, g_row_below h.out hb, h.ne, h.below.trans (hb.mono h.below.size)⟩
theorem row_is {lo e sz : Nat} {g n c m : Nat} {xs : List Value} (h : w.ownsRow lo e sz (.slice (some ⟨g, 0, none⟩) n c) m xs) : ∃ cs, w.heap[g]? = some (.cells cs e (0, 0)) := by
  rcases h.2 with ⟨e1, _⟩ | ⟨g2, cap, cur, e1, _, hg2, _⟩
  · cases e1
  · injection e1 with e1
    injection e1 with e1
    injection e1 with e1
    subst e1
    exact ⟨cur, hg2⟩
theorem TwAt.push (h : TwAt P0 Sb Tb N shl t ov w) {t' : Td} (hm : t'.met = t.met) {u : Value} (hown : w'.ownsRow P0.heap.size 44 8 u t'.out.length (rowsE t'.out)) (hbel : Below P0.heap.size w w') (hot : ∀ b, b < w.heap.size → ov.ownBlock ≠ some b → w'.heap[b]? = w.heap[b]?) : TwAt P0 Sb Tb N shl t' u w' := by
  obtain ⟨c1, e1⟩ := row_is h.sh
  obtain ⟨c2, e2⟩ := row_is h.told
  refine ⟨g_row_block h.sh (fun g hg => ?_), ?_, hown, h.ne, h.below.trans hbel⟩
  · have : Sb = g := by simpa [Value.ownBlock] using hg
    subst this
    exact hot _ (h.sh.lt _ rfl).2 (row_apart h.out e1 (by decide))
  · rw [hm]
    refine g_row_block h.told (fun g hg => ?_)
    have : Tb = g := by simpa [Value.ownBlock] using hg
    subst this
    exact hot _ (h.told.lt _ rfl).2 (row_apart h.out e2 (by decide))
theorem TwAt.mark (h : TwAt P0 Sb Tb N shl t ov w) {i : Nat} (hi : i < N) {t' : Td} (hm : t'.met = t.met ++ [i]) (ho : t'.out = t.out) : TwAt P0 Sb Tb N shl t' ov (w.setCell ⟨Tb, i, none⟩ (.bool true)) := by
  obtain ⟨c2, e2⟩ := row_is h.told
  refine ⟨row_set h.sh (fun e => h.ne (by simpa [Value.ownBlock] using e)) _ _, ?_, ?_, h.ne, h.below.setCell (p := ⟨Tb, i, none⟩) (by show P0.heap.size ≤ Tb; exact (h.told.lt Tb rfl).1) _⟩
  · rw [hm, ← tlB_set hi, blV_set]
    exact (h.told.stored i (.bool true)).1
  · rw [ho]
    exact row_set h.out (row_apart h.out e2 (by decide)) _ _
theorem TwAt.shAt (h : TwAt P0 Sb Tb N shl t ov w) {i : Nat} (hi : i < N) : w.cell? ⟨Sb, i, none⟩ = some (.bool (shl.getD i false)) := by
  have hl : shl.length = N := by have := h.sh.1; rw [blV_len] at this; omega
  rw [h.sh.cellAt i (by omega)]
  unfold blV
  rw [List.getElem?_map, List.getElem?_eq_getElem (by omega)]
  simp [List.getD, List.getElem?_eq_getElem (show i < shl.length by omega)]
theorem TwAt.toldAt (h : TwAt P0 Sb Tb N shl t ov w) {i : Nat} (hi : i < N) : w.cell? ⟨Tb, i, none⟩ = some (.bool (decide (i ∈ t.met))) ∧ w.frozen? ⟨Tb, i, none⟩ = false := by
  refine ⟨?_, h.told.frozenAt i⟩
  rw [h.told.cellAt i (by omega), ← tlB_getD hi]
  unfold blV
  rw [List.getElem?_map, List.getElem?_eq_getElem (by rw [tlB_len]; exact hi)]
  simp [List.getD, List.getElem?_eq_getElem (show i < (tlB N t.met).length by rw [tlB_len]; exact hi)]
end
/-- Blocks of other types than the rows' are left as they are. -/
def KeepL (w w' : World) : Prop := ∀ (x : Nat) (cs : Array Value) (t : TypeId) (fr : Nat × Nat), w.heap[x]? = some (.cells cs t fr) → t ≠ 4 → t ≠ 44 → w'.heap[x]? = w.heap[x]?
theorem KeepL.of {w w' : World} (hb : Below w.heap.size w w') : KeepL w w' := fun x _ _ _ h _ _ => hb.block x (Array.getElem?_eq_some_iff.1 h).1
theorem KeepL.trans {a b c : World} (h : KeepL a b) (k : KeepL b c) : KeepL a c := fun x cs t fr hx h1 h2 => by
  have e := h x cs t fr hx h1 h2
  exact (k x cs t fr (e.trans hx) h1 h2).trans e
theorem KeepL.mark {w : World} {b : Nat} {cs : Array Value} (hb : w.heap[b]? = some (.cells cs 4 (0, 0))) (j : Nat) (u : Value) : KeepL w (w.setCell ⟨b, j, none⟩ u) := fun x cs' t fr hx h1 _ => heap_setCell_other _ _ _ _ (fun e => by
  have e : x = b := e
  subst e
  rw [hx] at hb
  injection hb with hb
  injection hb with _ hb
  exact h1 hb)
theorem KeepL.push {w w' : World} {ov : Value} {lo n : Nat} {xs : List Value} (h : w.ownsRow lo 44 8 ov n xs) (hot : ∀ b, b < w.heap.size → ov.ownBlock ≠ some b → w'.heap[b]? = w.heap[b]?) : KeepL w w' := fun x _ _ _ hx _ h2 => hot x (Array.getElem?_eq_some_iff.1 hx).1 (row_apart h hx h2)
theorem KeepL.cells {w w' : World} (h : KeepL w w') {b : Nat} {cs : Array Value} {t : TypeId} (hb : w.heap[b]? = some (.cells cs t (0, 0))) (h1 : t ≠ 4) (h2 : t ≠ 44) : w'.heap[b]? = some (.cells cs t (0, 0)) := (h b cs t (0, 0) hb h1 h2).trans hb
theorem ndAt_is {g : Gr} {i : Nat} {n : Nd} (h : g.nodes[i]? = some n) : ndAt g i = n := by unfold ndAt; simp [List.getD, h]
/-- A node that isn't a text has none, and a text has no kids. -/
theorem ok_nodeF {g : Gr} (h : graphOkP g = true) {i : Nat} {n : Nd} (hx : g.nodes[i]? = some n) : (n.kind ≠ 5 → n.text = ⟨#[]⟩) ∧ (n.kind = 5 → n.kids = []) := by
  unfold graphOkP at h
  rw [Bool.and_eq_true, Bool.and_eq_true] at h
  have h2 := h.2.1
  rw [List.all_eq_true] at h2
  have h3 := h2 n (List.mem_of_getElem? hx)
  unfold nodeOkG at h3
  rw [Bool.and_eq_true] at h3
  have h4 : headBad n = false := by simpa using h3.1
  obtain ⟨kind, tag, text, kids⟩ := n
  unfold headBad at h4
  simp only [Bool.or_eq_false_iff] at h4
  obtain ⟨_, _, _, _, h5, h6⟩ := h4
  constructor
  · intro hk
    have hk' : kind ≠ 5 := hk
    have h7 : text.toList.isEmpty = true := by simpa [hk'] using h6
    show text = ⟨#[]⟩
    rw [List.isEmpty_iff, ByteArray.toList_eq] at h7
    obtain ⟨d⟩ := text
    congr 1
    exact Array.toList_eq_nil_iff.1 h7
  · intro hk
    have hk' : kind = 5 := hk
    have h7 : ¬ 0 < kids.length := by simpa [hk'] using h5
    show kids = []
    exact List.eq_nil_of_length_eq_zero (by omega)
end Go.Proofs.YtgaibajkegfpoaaDoor
