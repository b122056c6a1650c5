/- The reader of scalars in quotes, as it lies in memory. -/
import Derived.Test.YtfbgdkfnidghcakGreatDoorQc1
import Derived.Lib.AppendStr
import Derived.Lib.Builder
namespace Go.Proofs.YtfbgdkfnidghcakGreatDoor
open Go.ChangeShapes Go.WideShapes Go.ChangeAt Go.RowKit Go.Deep
/-- The reader at block b: its text, its place, its lines, its line, and how much of that is firm. -/
def RdAt (b : Nat) (s : ByteArray) (i : Nat) (lv cv : Value) (fm : Nat) (w : World) : Prop := w.heap[b]? = some (.cells #[.string s, .int .i64 (i : Int), lv, cv, .int .i64 (fm : Int)] 41 (0, 0))
theorem RdAt.c0 {b : Nat} {s : ByteArray} {i : Nat} {lv cv : Value} {fm : Nat} {w : World} (h : RdAt b s i lv cv fm w) : w.cell? ⟨b, 0, none⟩ = some (.string s) := by rw [Lib.cell_of_heap h]; rfl
theorem RdAt.c1 {b : Nat} {s : ByteArray} {i : Nat} {lv cv : Value} {fm : Nat} {w : World} (h : RdAt b s i lv cv fm w) : w.cell? ⟨b, 1, none⟩ = some (.int .i64 (i : Int)) := by rw [Lib.cell_of_heap h]; rfl
theorem RdAt.c2 {b : Nat} {s : ByteArray} {i : Nat} {lv cv : Value} {fm : Nat} {w : World} (h : RdAt b s i lv cv fm w) : w.cell? ⟨b, 2, none⟩ = some lv := by rw [Lib.cell_of_heap h]; rfl
theorem RdAt.c3 {b : Nat} {s : ByteArray} {i : Nat} {lv cv : Value} {fm : Nat} {w : World} (h : RdAt b s i lv cv fm w) : w.cell? ⟨b, 3, none⟩ = some cv := by rw [Lib.cell_of_heap h]; rfl
theorem RdAt.c4 {b : Nat} {s : ByteArray} {i : Nat} {lv cv : Value} {fm : Nat} {w : World} (h : RdAt b s i lv cv fm w) : w.cell? ⟨b, 4, none⟩ = some (.int .i64 (fm : Int)) := by rw [Lib.cell_of_heap h]; rfl
theorem RdAt.fz {b : Nat} {s : ByteArray} {i : Nat} {lv cv : Value} {fm : Nat} {w : World} (h : RdAt b s i lv cv fm w) (j : Nat) : w.frozen? ⟨b, j, none⟩ = false := Lib.frozen_of_heap h j
theorem RdAt.lt {b : Nat} {s : ByteArray} {i : Nat} {lv cv : Value} {fm : Nat} {w : World} (h : RdAt b s i lv cv fm w) : b < w.heap.size := (Array.getElem?_eq_some_iff.1 h).1
theorem RdAt.stays {b B : Nat} {s : ByteArray} {i : Nat} {lv cv : Value} {fm : Nat} {w w' : World} (h : RdAt b s i lv cv fm w) (hb : Below B w w') (hB : b < B) : RdAt b s i lv cv fm w' := (hb.block b hB).trans h
theorem RdAt.set1 {b : Nat} {s : ByteArray} {i : Nat} {lv cv : Value} {fm : Nat} {w : World} (h : RdAt b s i lv cv fm w) (j : Nat) : RdAt b s j lv cv fm (w.setCell ⟨b, 1, none⟩ (.int .i64 (j : Int))) := by
  unfold RdAt at *
  simp [World.setCell, Array.getElem?_modify, h]
theorem RdAt.set2 {b : Nat} {s : ByteArray} {i : Nat} {lv cv : Value} {fm : Nat} {w : World} (h : RdAt b s i lv cv fm w) (v : Value) : RdAt b s i v cv fm (w.setCell ⟨b, 2, none⟩ v) := by
  unfold RdAt at *
  simp [World.setCell, Array.getElem?_modify, h]
theorem RdAt.set3 {b : Nat} {s : ByteArray} {i : Nat} {lv cv : Value} {fm : Nat} {w : World} (h : RdAt b s i lv cv fm w) (v : Value) : RdAt b s i lv v fm (w.setCell ⟨b, 3, none⟩ v) := by
  unfold RdAt at *
  simp [World.setCell, Array.getElem?_modify, h]
theorem RdAt.set4 {b : Nat} {s : ByteArray} {i : Nat} {lv cv : Value} {fm : Nat} {w : World} (h : RdAt b s i lv cv fm w) (j : Nat) : RdAt b s i lv cv j (w.setCell ⟨b, 4, none⟩ (.int .i64 (j : Int))) := by
  unfold RdAt at *
  simp [World.setCell, Array.getElem?_modify, h]
/-- A row behind block b does not feel a store into b. -/
theorem row_past {w : World} {b e sz j : Nat} {v u : Value} {n : Nat} {xs : List Value} (h : w.ownsRow (b + 1) e sz v n xs) : (w.setCell ⟨b, j, none⟩ u).ownsRow (b + 1) e sz v n xs :=
  row_same h (fun k hk _ => Below.heap_setCell _ _ _ _ (by simp; omega))
/-- The reader with its lines l and its line cur. -/
def RdM (b : Nat) (s : ByteArray) (i : Nat) (l : List Pc) (cur : ByteArray) (fm : Nat) (w : World) : Prop :=
  ∃ la ln lc ca cn cc, RdAt b s i (.slice la ln lc) (.slice ca cn cc) fm w ∧ w.ownsRow (b + 1) 29 2 (.slice la ln lc) l.length (cellsC l) ∧ w.ownsRow (b + 1) 5 1 (.slice ca cn cc) cur.size (Lib.strCells cur)
theorem RdM.lt {b : Nat} {s : ByteArray} {i : Nat} {l : List Pc} {cur : ByteArray} {fm : Nat} {w : World} (h : RdM b s i l cur fm w) : b < w.heap.size := by
  obtain ⟨_, _, _, _, _, _, h, _⟩ := h
  exact h.lt
theorem RdM.stays {b : Nat} {s : ByteArray} {i : Nat} {l : List Pc} {cur : ByteArray} {fm : Nat} {w w' : World} (h : RdM b s i l cur fm w) (hb : Below w.heap.size w w') : RdM b s i l cur fm w' := by
  obtain ⟨la, ln, lc, ca, cn, cc, h1, h2, h3⟩ := h
  exact ⟨la, ln, lc, ca, cn, cc, h1.stays hb h1.lt, row_same h2 (fun k _ hk => hb.block k hk), row_same h3 (fun k _ hk => hb.block k hk)⟩
theorem ba_zero {b : ByteArray} (h : b.size = 0) : b = ByteArray.empty := by
  apply ba_ext
  have : b.data.toList.length = 0 := by rw [Array.length_toList]; exact h
  rw [List.eq_nil_of_length_eq_zero this]; rfl
theorem conv_row {w : World} {lo : Nat} {v : Value} {cur : ByteArray} (h : w.ownsRow lo 5 1 v cur.size (Lib.strCells cur)) : (convert 27 9 v).run Tryz.prog w = .ok (.string cur) w := by
  rcases h.2 with ⟨rfl, e⟩ | ⟨g, cap, c, rfl, _⟩
  · rw [ba_zero e]
    exact run_convert_bytes_nil w 27 5 Tryz.underlying27 Tryz.underlying5 0 0 9 Tryz.underlying9
  · exact Lib.run_convert_whole (P := Tryz.prog) w 27 5 9 Tryz.underlying27 Tryz.underlying5 Tryz.underlying9 g 0 cur (bytes_own h) cap
theorem row_len {w : World} {lo e sz : Nat} {a : Option Addr} {m c n : Nat} {xs : List Value} (h : w.ownsRow lo e sz (.slice a m c) n xs) : m = n ∧ n ≤ c := by
  rcases h.2 with ⟨e1, e2⟩ | ⟨g, cap, cur, e1, _, _, e4, _⟩
  · injection e1 with _ e1 e3; omega
  · injection e1 with _ e1 e3; omega
theorem row_nil {w : World} {lo e sz : Nat} {m c n : Nat} {xs : List Value} (h : w.ownsRow lo e sz (.slice none m c) n xs) : n = 0 ∧ c = 0 := by
  rcases h.2 with ⟨e1, e2⟩ | ⟨g, cap, cur, e1, _⟩
  · injection e1 with _ _ e3; exact ⟨e2, e3⟩
  · injection e1 with e1; cases e1
/-- A beginning of a row of bytes. -/
theorem row_take {w : World} {lo : Nat} {a : Option Addr} {m c k : Nat} {cur : ByteArray} (h : w.ownsRow lo 5 1 (.slice a m c) cur.size (Lib.strCells cur)) (hk : k ≤ cur.size) :
    w.ownsRow lo 5 1 (.slice a k c) (cur.extract 0 k).size (Lib.strCells (cur.extract 0 k)) := by
  have hz : (cur.extract 0 k).size = k := by rw [ByteArray.size_extract]; omega
  have hc : Lib.strCells (cur.extract 0 k) = (Lib.strCells cur).take k := by
    unfold Lib.strCells
    rw [ByteArray.data_extract, Array.toList_extract, List.extract_eq_take_drop, List.drop_zero, Nat.sub_zero, List.map_take]
  refine ⟨by rw [hc, List.length_take, h.1, hz]; omega, ?_⟩
  rw [hz, hc]
  rcases h.2 with ⟨e1, e2⟩ | ⟨g, cap, cu, e1, h1, h2, h3, h4, h5, h6⟩
  · injection e1 with e0 e1 e3
    obtain rfl : k = 0 := by omega
    exact .inl ⟨by rw [e0, e3], rfl⟩
  · injection e1 with e0 e1 e3
    subst e0
    subst e3
    exact .inr ⟨g, c, cu, rfl, h1, h2, by omega, h4, h5, by rw [← h6, List.take_take]; congr 1; omega⟩
/-- The bytes of a text come behind a row of bytes, or of none. -/
theorem push_any (w : World) (lo : Nat) (v : Value) (cur t : ByteArray) (hown : w.ownsRow lo 5 1 v cur.size (Lib.strCells cur)) (hn : cur.size + t.size ≤ 100000000) (hlo : lo ≤ w.heap.size) :
    ∃ a n c w', (Builtin.append_ #[27, 9] 27 #[v, .string t]).run Tryz.prog w = .ok (.slice a n c) w' ∧
      w'.ownsRow lo 5 1 (.slice a n c) (cur ++ t).size (Lib.strCells (cur ++ t)) ∧ Below lo w w' ∧ (∀ b, b < w.heap.size → v.ownBlock ≠ some b → w'.heap[b]? = w.heap[b]?) := by
  obtain ⟨ti, hti, hz0, hz1, hz2⟩ := info_parts infoB
  obtain ⟨v4, w4, hrun, ho, hg4, hnil⟩ := Lib.run_append_own_string (P := Tryz.prog) w lo 27 9 27 5 ti Tryz.underlying27 Tryz.underlying9 hti hz0 hz1 hz2 _ _ _ hown t (by unfold maxLen; omega) (by omega) hlo
  obtain ⟨a, n, c, rfl⟩ : ∃ a n c, v4 = .slice a n c := by
    rcases ho.2 with ⟨e, _⟩ | ⟨g', cap', c', e, _⟩
    · exact ⟨_, _, _, e⟩
    · exact ⟨_, _, _, e⟩
  refine ⟨a, n, c, w4, hrun, ?_, below_of_grown hg4 hlo (fun b hb => (hown.lt b hb).1), fun b hb hne => hg4.block b hb (fun e => hne e.symm)⟩
  rw [ByteArray.size_append, strCells_snoc]; exact ho
theorem append_str {P : Program} {w : World} {ops : Array Oper} {rest : List Oper} {o : Oper} {a : Act} {Q : Exit → Act → World → Prop}
    (hg : o.guard = none) (s x : Operand) (t u : TypeId) (hop : o.op = Op.call { callee := Callee.builtin Builtin.append, args := #[s, x], argTypes := #[t, u] })
    (v y : Value) (hs : a.eval s = v) (hx : a.eval x = y) (r : Value) (w' : World) (hrun : (Builtin.append_ #[t, u] o.type #[v, y]).run P w = .ok r w')
    (hK : wpList P ops Q rest (a.put o.dst r) w') : wpList P ops Q (o :: rest) a w := by
  refine wpList_plain hg fun K hK' => ?_
  unfold Oper.wp execOp
  simp only [hop, resolve, invoke, builtin, Sem.run_bind, Sem.run_pure, Result.andThen_ok, List.map_toArray, List.map_cons, List.map_nil, hs, hx, hrun]
  exact hK' _ _ hK
/-- What is panicked with. -/
def faultE (code p : Nat) : Ending := .panicked [{ v := .iface 43 (.agg #[.int .i64 (code : Int), .int .i64 (p : Int)]), recovered := false }]
/-- The frame of a call on the reader at block b: what lies below it, and behind it whatever isn't of the rows' types, is as it was. -/
structure Fq (b : Nat) (w w' : World) : Prop where
  below : Below b w w'
  keep : ∀ k cs T r, b < k → w.heap[k]? = some (.cells cs T r) → T ≠ 29 → T ≠ 5 → w'.heap[k]? = some (.cells cs T r)
theorem Fq.refl (b : Nat) (w : World) : Fq b w w := ⟨Below.refl _ _, fun _ _ _ _ _ h _ _ => h⟩
theorem Fq.trans {b : Nat} {w1 w2 w3 : World} (h : Fq b w1 w2) (k : Fq b w2 w3) : Fq b w1 w3 := ⟨h.below.trans k.below, fun j cs T r hj h1 h2 h3 => k.keep j cs T r hj (h.keep j cs T r hj h1 h2 h3) h2 h3⟩
theorem Fq.drew {b : Nat} {w1 w2 : World} (h : Fq b w1 w2) : Fq b w1 w2.drew := ⟨h.below.drew, h.keep⟩
theorem Fq.of {b : Nat} {w1 w2 : World} (h : Below w1.heap.size w1 w2) (hb : b < w1.heap.size) : Fq b w1 w2 :=
  ⟨h.mono (Nat.le_of_lt hb), fun k _ _ _ _ hk _ _ => (h.block k (Array.getElem?_eq_some_iff.1 hk).1).trans hk⟩
theorem Fq.setB {b : Nat} {w1 w2 : World} (h : Fq b w1 w2) (j : Nat) (u : Value) : Fq b w1 (w2.setCell ⟨b, j, none⟩ u) :=
  ⟨h.below.setCell (Nat.le_refl _) u, fun k cs T r hk h1 h2 h3 => (Below.heap_setCell _ _ _ _ (by show k ≠ b; omega)).trans (h.keep k cs T r hk h1 h2 h3)⟩
theorem row_not {w : World} {base e sz : Nat} {v : Value} {n : Nat} {xs : List Value} (h : w.ownsRow base e sz v n xs) {k : Nat} {cs : Array Value} {T : Nat} {r : Nat × Nat} (hk : w.heap[k]? = some (.cells cs T r)) (hT : T ≠ e) : v.ownBlock ≠ some k := by
  rcases h.2 with ⟨rfl, _⟩ | ⟨g, cap, cur, rfl, _, hg, _⟩
  · simp [Value.ownBlock]
  · intro hh
    simp only [Value.ownBlock, Option.some.injEq] at hh
    subst hh
    rw [hg] at hk
    injection hk with hk
    injection hk with _ hk _
    exact hT hk.symm
theorem Fq.push {b : Nat} {w1 w2 : World} (hb : Below (b + 1) w1 w2) {base e sz : Nat} {v : Value} {n : Nat} {xs : List Value} (h : w1.ownsRow base e sz v n xs) (he : e = 29 ∨ e = 5) (hot : ∀ k, k < w1.heap.size → v.ownBlock ≠ some k → w2.heap[k]? = w1.heap[k]?) : Fq b w1 w2 :=
  ⟨hb.mono (Nat.le_succ b), fun k cs T r _ hk h2 h3 => (hot k (Array.getElem?_eq_some_iff.1 hk).1 (row_not h hk (by rcases he with rfl | rfl <;> assumption))).trans hk⟩
end Go.Proofs.YtfbgdkfnidghcakGreatDoor
