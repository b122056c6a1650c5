/- Several texts in one: Qc1 Rdr Rd1. -/
import Derived.Test.YtjpcmmfmdoglkalGreatDoorSsg
import Derived.Lib.SlTrimSet
import Derived.Lib.AppendStr
import Derived.Lib.Builder
import Derived.Test.YtjpcmmfmdoglkalGreatDoorMk
import Derived.OwnWalk
import Derived.WalkMore
import Derived.Deep.Light
import Derived.Deep.RegionHeld3
/- Plain facts: a scalar in single quotes, stretch by stretch. -/
namespace Go.Proofs.YtjpcmmfmdoglkalGreatDoor
open Go.RowKit
theorem sg_fuel {s : ByteArray} : ∀ (f g i : Nat) (l : List Pc) (cur : ByteArray), s.size < f + i → s.size < g + i → sgGo s f i l cur = sgGo s g i l cur
  | 0, g, i, l, cur, h, _ => by rw [sg_end (by omega), sg_end (by omega)]
  | f + 1, 0, i, l, cur, _, h => by rw [sg_end (by omega), sg_end (by omega)]
  | f + 1, g + 1, i, l, cur, h, h' => by
    have hw := wh_ge s (i + 1)
    by_cases h0 : s.size ≤ i
    · rw [sg_end h0, sg_end h0]
    · have hi : i < s.size := by omega
      by_cases h1 : bt s i = 39
      · by_cases h2 : i + 1 < s.size ∧ bt s (i + 1) = 39
        · rw [sg_two hi h1 h2.1 h2.2, sg_two hi h1 h2.1 h2.2]
          exact sg_fuel f g _ _ _ (by omega) (by omega)
        · rw [sg_close hi h1 h2, sg_close hi h1 h2]
      · by_cases h2 : bt s i = 10
        · by_cases h3 : 0 < markN s (i + 1)
          · rw [sg_mark hi h2 h3, sg_mark hi h2 h3]
          · rw [sg_line hi h2 h3, sg_line hi h2 h3]
            exact sg_fuel f g _ _ _ (by omega) (by omega)
        · rw [sg_byte hi h1 h2, sg_byte hi h1 h2]
          exact sg_fuel f g _ _ _ (by omega) (by omega)
/-- SingleAt from i on. -/
def sgR (s : ByteArray) (i : Nat) (l : List Pc) (cur : ByteArray) : ByteArray × Nat × Nat := sgGo s (s.size + 1) i l cur
theorem sgR_end {s : ByteArray} {i : Nat} {l : List Pc} {cur : ByteArray} (h : s.size ≤ i) : sgR s i l cur = (ByteArray.empty, s.size, 3) := sg_end h
theorem sgR_two {s : ByteArray} {i : Nat} {l : List Pc} {cur : ByteArray} (hi : i < s.size) (h : bt s i = 39) (h1 : i + 1 < s.size) (h2 : bt s (i + 1) = 39) : sgR s i l cur = sgR s (i + 2) l (cur ++ b1 39) := by
  unfold sgR; rw [sg_two hi h h1 h2]; exact sg_fuel _ _ _ _ _ (by omega) (by omega)
theorem sgR_close {s : ByteArray} {i : Nat} {l : List Pc} {cur : ByteArray} (hi : i < s.size) (h : bt s i = 39) (h1 : ¬ (i + 1 < s.size ∧ bt s (i + 1) = 39)) : sgR s i l cur = (foldFlow (l ++ [(cur, false)]), i + 1, 0) := sg_close hi h h1
theorem sgR_mark {s : ByteArray} {i : Nat} {l : List Pc} {cur : ByteArray} (hi : i < s.size) (h : bt s i = 10) (h1 : 0 < markN s (i + 1)) : sgR s i l cur = (ByteArray.empty, i + 1, 4) := sg_mark hi h h1
theorem sgR_line {s : ByteArray} {i : Nat} {l : List Pc} {cur : ByteArray} (hi : i < s.size) (h : bt s i = 10) (h1 : ¬ 0 < markN s (i + 1)) : sgR s i l cur = sgR s (wh s (i + 1)) (l ++ [(cutB cur 0, false)]) ByteArray.empty := by
  have hw := wh_ge s (i + 1)
  unfold sgR; rw [sg_line hi h h1]; exact sg_fuel _ _ _ _ _ (by omega) (by omega)
theorem sgR_byte {s : ByteArray} {i : Nat} {l : List Pc} {cur : ByteArray} (hi : i < s.size) (h : bt s i ≠ 39) (h1 : bt s i ≠ 10) : sgR s i l cur = sgR s (i + 1) l (cur ++ b1 (bt s i)) := by
  unfold sgR; rw [sg_byte hi h h1]; exact sg_fuel _ _ _ _ _ (by omega) (by omega)
theorem extract_same (s : ByteArray) (i : Nat) : s.extract i i = ByteArray.empty := by
  apply ba_ext
  rw [ByteArray.data_extract, Array.toList_extract, List.extract_eq_take_drop, Nat.sub_self, List.take_zero]
  rfl
theorem extract_snoc (s : ByteArray) (i j : Nat) (hij : i ≤ j) (hj : j < s.size) : s.extract i (j + 1) = s.extract i j ++ b1 (bt s j) := by
  apply ba_ext
  have hl : j < s.data.toList.length := by simpa using hj
  have hb : (bt s j).toUInt8 = s.data.toList[j]'hl := by
    rw [← bt_get s j hj]
    show UInt8.ofNat (s[j]'hj).toNat = _
    rw [UInt8.ofNat_toNat]
    rfl
  rw [ByteArray.data_append, Array.toList_append, ByteArray.data_extract, ByteArray.data_extract, Array.toList_extract, Array.toList_extract, List.extract_eq_take_drop, List.extract_eq_take_drop]
  have e : j + 1 - i = (j - i) + 1 := by omega
  rw [e, List.take_add_one]
  congr 1
  rw [List.getElem?_drop, show i + (j - i) = j by omega, List.getElem?_eq_getElem hl]
  show _ = [(bt s j).toUInt8]
  rw [hb]
  rfl
theorem ba_nil (b : ByteArray) : b ++ ByteArray.empty = b := by
  apply ba_ext
  rw [ByteArray.data_append, Array.toList_append]
  show _ ++ [] = _
  rw [List.append_nil]
theorem ba_assoc (a b c : ByteArray) : a ++ b ++ c = a ++ (b ++ c) := by
  apply ba_ext
  simp only [ByteArray.data_append, Array.toList_append, List.append_assoc]
/-- Bytes that stand for themselves. -/
theorem sgR_chunk {s : ByteArray} {i : Nat} {l : List Pc} {cur : ByteArray} : ∀ (n : Nat), i + n ≤ s.size → (∀ k, i ≤ k → k < i + n → bt s k ≠ 39 ∧ bt s k ≠ 10) → sgR s i l cur = sgR s (i + n) l (cur ++ s.extract i (i + n))
  | 0, _, _ => by rw [Nat.add_zero, extract_same, ba_nil]
  | n + 1, h, hk => by
    have ih := sgR_chunk (s := s) (i := i) (l := l) (cur := cur) n (by omega) (fun k h1 h2 => hk k h1 (by omega))
    obtain ⟨a, b⟩ := hk (i + n) (by omega) (by omega)
    rw [ih, sgR_byte (by omega) a b, ba_assoc, ← extract_snoc s i (i + n) (by omega) (by omega)]
    rfl
/-- What TrimRight leaves of what is behind keep. -/
theorem trim_snoc (l cs : List UInt8) (x : UInt8) : Lib.trimRightS (l ++ [x]) cs = if cs.contains x = true then Lib.trimRightS l cs else l ++ [x] := by
  unfold Lib.trimRightS
  rw [List.reverse_append, List.reverse_singleton, List.singleton_append, List.dropWhile_cons]
  split
  · rfl
  · rw [List.reverse_cons, List.reverse_reverse]
theorem white_has {b : ByteArray} {k : Nat} (hk : k < b.size) : [32, 9].contains (b.data.toList[k]'(by simpa using hk)) = pW (bt b k) := by
  have h := pW_signs (bt b k) (bt_lt b k)
  have hb : (bt b k).toUInt8 = b.data.toList[k]'(by simpa using hk) := by
    rw [← bt_get b k hk]
    show UInt8.ofNat (b[k]'hk).toNat = _
    rw [UInt8.ofNat_toNat]
    rfl
  rw [h, hb]
theorem cutN_trim (b : ByteArray) (keep : Nat) : ∀ k, keep ≤ k → k ≤ b.size → cutN b keep k = keep + (Lib.trimRightS ((b.data.toList.take k).drop keep) [32, 9]).length := by
  intro k
  induction k with
  | zero =>
    intro h _
    obtain rfl : keep = 0 := by omega
    rfl
  | succ k ih =>
    intro h hk
    by_cases e : keep = k + 1
    · subst e
      rw [cutN_low (Nat.le_refl _), List.drop_eq_nil_of_le (by rw [List.length_take]; omega)]
      rfl
    · have hl : k < b.data.toList.length := by rw [Array.length_toList]; exact hk
      have ht : (b.data.toList.take (k + 1)).drop keep = (b.data.toList.take k).drop keep ++ [b.data.toList[k]'hl] := by
        rw [List.take_add_one, List.getElem?_eq_getElem hl, List.drop_append_of_le_length (by rw [List.length_take]; omega)]
        rfl
      rw [ht, trim_snoc, white_has (by omega)]
      by_cases hw : pW (bt b k) = true
      · rw [cutN_step (by omega) hw, if_pos hw]
        exact ih (by omega) (by omega)
      · rw [cutN_stop (fun h => hw h.2), if_neg hw, List.length_append, List.length_drop, List.length_take]
        simp
        omega
theorem cutN_all (b : ByteArray) (keep : Nat) (h : keep ≤ b.size) : cutN b keep b.size = keep + (Lib.trimRightS (b.data.toList.drop keep) [32, 9]).length := by
  rw [cutN_trim b keep b.size h (Nat.le_refl _), List.take_of_length_le (by simp)]
theorem cutB_whole (b : ByteArray) : cutB b b.size = b := by
  unfold cutB
  rw [cutN_low (Nat.le_refl _)]
  exact ByteArray.extract_zero_size
end Go.Proofs.YtjpcmmfmdoglkalGreatDoor
/- The reader of scalars in quotes, as it lies in memory. -/
namespace Go.Proofs.YtjpcmmfmdoglkalGreatDoor
open Go.ChangeShapes Go.WideShapes Go.ChangeAt Go.RowKit Go.Deep
/-- The reader at block b: its text, its place, its lines, its line, and how much of that is firm. -/
def RdAt (b : Nat) (s : ByteArray) (i : Nat) (lv cv : Value) (fm : Nat) (w : World) : Prop := w.heap[b]? = some (.cells #[.string s, .int .i64 (i : Int), lv, cv, .int .i64 (fm : Int)] 166 (0, 0))
theorem RdAt.c0 {b : Nat} {s : ByteArray} {i : Nat} {lv cv : Value} {fm : Nat} {w : World} (h : RdAt b s i lv cv fm w) : w.cell? ⟨b, 0, none⟩ = some (.string s) := by rw [Lib.cell_of_heap h]; rfl
theorem RdAt.c1 {b : Nat} {s : ByteArray} {i : Nat} {lv cv : Value} {fm : Nat} {w : World} (h : RdAt b s i lv cv fm w) : w.cell? ⟨b, 1, none⟩ = some (.int .i64 (i : Int)) := by rw [Lib.cell_of_heap h]; rfl
theorem RdAt.c2 {b : Nat} {s : ByteArray} {i : Nat} {lv cv : Value} {fm : Nat} {w : World} (h : RdAt b s i lv cv fm w) : w.cell? ⟨b, 2, none⟩ = some lv := by rw [Lib.cell_of_heap h]; rfl
theorem RdAt.c3 {b : Nat} {s : ByteArray} {i : Nat} {lv cv : Value} {fm : Nat} {w : World} (h : RdAt b s i lv cv fm w) : w.cell? ⟨b, 3, none⟩ = some cv := by rw [Lib.cell_of_heap h]; rfl
theorem RdAt.c4 {b : Nat} {s : ByteArray} {i : Nat} {lv cv : Value} {fm : Nat} {w : World} (h : RdAt b s i lv cv fm w) : w.cell? ⟨b, 4, none⟩ = some (.int .i64 (fm : Int)) := by rw [Lib.cell_of_heap h]; rfl
theorem RdAt.fz {b : Nat} {s : ByteArray} {i : Nat} {lv cv : Value} {fm : Nat} {w : World} (h : RdAt b s i lv cv fm w) (j : Nat) : w.frozen? ⟨b, j, none⟩ = false := Lib.frozen_of_heap h j
theorem RdAt.lt {b : Nat} {s : ByteArray} {i : Nat} {lv cv : Value} {fm : Nat} {w : World} (h : RdAt b s i lv cv fm w) : b < w.heap.size := (Array.getElem?_eq_some_iff.1 h).1
theorem RdAt.stays {b B : Nat} {s : ByteArray} {i : Nat} {lv cv : Value} {fm : Nat} {w w' : World} (h : RdAt b s i lv cv fm w) (hb : Below B w w') (hB : b < B) : RdAt b s i lv cv fm w' := (hb.block b hB).trans h
theorem RdAt.set1 {b : Nat} {s : ByteArray} {i : Nat} {lv cv : Value} {fm : Nat} {w : World} (h : RdAt b s i lv cv fm w) (j : Nat) : RdAt b s j lv cv fm (w.setCell ⟨b, 1, none⟩ (.int .i64 (j : Int))) := by
  unfold RdAt at *
  simp [World.setCell, Array.getElem?_modify, h]
theorem RdAt.set2 {b : Nat} {s : ByteArray} {i : Nat} {lv cv : Value} {fm : Nat} {w : World} (h : RdAt b s i lv cv fm w) (v : Value) : RdAt b s i v cv fm (w.setCell ⟨b, 2, none⟩ v) := by
  unfold RdAt at *
  simp [World.setCell, Array.getElem?_modify, h]
theorem RdAt.set3 {b : Nat} {s : ByteArray} {i : Nat} {lv cv : Value} {fm : Nat} {w : World} (h : RdAt b s i lv cv fm w) (v : Value) : RdAt b s i lv v fm (w.setCell ⟨b, 3, none⟩ v) := by
  unfold RdAt at *
  simp [World.setCell, Array.getElem?_modify, h]
theorem RdAt.set4 {b : Nat} {s : ByteArray} {i : Nat} {lv cv : Value} {fm : Nat} {w : World} (h : RdAt b s i lv cv fm w) (j : Nat) : RdAt b s i lv cv j (w.setCell ⟨b, 4, none⟩ (.int .i64 (j : Int))) := by
  unfold RdAt at *
  simp [World.setCell, Array.getElem?_modify, h]
/-- A row behind block b does not feel a store into b. -/
theorem row_past {w : World} {b e sz j : Nat} {v u : Value} {n : Nat} {xs : List Value} (h : w.ownsRow (b + 1) e sz v n xs) : (w.setCell ⟨b, j, none⟩ u).ownsRow (b + 1) e sz v n xs :=
  row_same h (fun k hk _ => Below.heap_setCell _ _ _ _ (by simp; omega))
/-- The reader with its lines l and its line cur. -/
def RdM (b : Nat) (s : ByteArray) (i : Nat) (l : List Pc) (cur : ByteArray) (fm : Nat) (w : World) : Prop :=
  ∃ la ln lc ca cn cc, RdAt b s i (.slice la ln lc) (.slice ca cn cc) fm w ∧ w.ownsRow (b + 1) 92 2 (.slice la ln lc) l.length (cellsC l) ∧ w.ownsRow (b + 1) 5 1 (.slice ca cn cc) cur.size (Lib.strCells cur)
theorem RdM.lt {b : Nat} {s : ByteArray} {i : Nat} {l : List Pc} {cur : ByteArray} {fm : Nat} {w : World} (h : RdM b s i l cur fm w) : b < w.heap.size := by
  obtain ⟨_, _, _, _, _, _, h, _⟩ := h
  exact h.lt
theorem RdM.stays {b : Nat} {s : ByteArray} {i : Nat} {l : List Pc} {cur : ByteArray} {fm : Nat} {w w' : World} (h : RdM b s i l cur fm w) (hb : Below w.heap.size w w') : RdM b s i l cur fm w' := by
  obtain ⟨la, ln, lc, ca, cn, cc, h1, h2, h3⟩ := h
  exact ⟨la, ln, lc, ca, cn, cc, h1.stays hb h1.lt, row_same h2 (fun k _ hk => hb.block k hk), row_same h3 (fun k _ hk => hb.block k hk)⟩
theorem ba_zero {b : ByteArray} (h : b.size = 0) : b = ByteArray.empty := by
  apply ba_ext
  have : b.data.toList.length = 0 := by rw [Array.length_toList]; exact h
  rw [List.eq_nil_of_length_eq_zero this]; rfl
theorem conv_row {w : World} {lo : Nat} {v : Value} {cur : ByteArray} (h : w.ownsRow lo 5 1 v cur.size (Lib.strCells cur)) : (convert 89 9 v).run Tryz.prog w = .ok (.string cur) w := by
  rcases h.2 with ⟨rfl, e⟩ | ⟨g, cap, c, rfl, _⟩
  · rw [ba_zero e]
    exact run_convert_bytes_nil w 89 5 Tryz.underlying89 Tryz.underlying5 0 0 9 Tryz.underlying9
  · exact Lib.run_convert_whole (P := Tryz.prog) w 89 5 9 Tryz.underlying89 Tryz.underlying5 Tryz.underlying9 g 0 cur (bytes_own h) cap
theorem row_len {w : World} {lo e sz : Nat} {a : Option Addr} {m c n : Nat} {xs : List Value} (h : w.ownsRow lo e sz (.slice a m c) n xs) : m = n ∧ n ≤ c := by
  rcases h.2 with ⟨e1, e2⟩ | ⟨g, cap, cur, e1, _, _, e4, _⟩
  · injection e1 with _ e1 e3; omega
  · injection e1 with _ e1 e3; omega
theorem row_nil {w : World} {lo e sz : Nat} {m c n : Nat} {xs : List Value} (h : w.ownsRow lo e sz (.slice none m c) n xs) : n = 0 ∧ c = 0 := by
  rcases h.2 with ⟨e1, e2⟩ | ⟨g, cap, cur, e1, _⟩
  · injection e1 with _ _ e3; exact ⟨e2, e3⟩
  · injection e1 with e1; cases e1
/-- A beginning of a row of bytes. -/
theorem row_take {w : World} {lo : Nat} {a : Option Addr} {m c k : Nat} {cur : ByteArray} (h : w.ownsRow lo 5 1 (.slice a m c) cur.size (Lib.strCells cur)) (hk : k ≤ cur.size) :
    w.ownsRow lo 5 1 (.slice a k c) (cur.extract 0 k).size (Lib.strCells (cur.extract 0 k)) := by
  have hz : (cur.extract 0 k).size = k := by rw [ByteArray.size_extract]; omega
  have hc : Lib.strCells (cur.extract 0 k) = (Lib.strCells cur).take k := by
    unfold Lib.strCells
    rw [ByteArray.data_extract, Array.toList_extract, List.extract_eq_take_drop, List.drop_zero, Nat.sub_zero, List.map_take]
  refine ⟨by rw [hc, List.length_take, h.1, hz]; omega, ?_⟩
  rw [hz, hc]
  rcases h.2 with ⟨e1, e2⟩ | ⟨g, cap, cu, e1, h1, h2, h3, h4, h5, h6⟩
  · injection e1 with e0 e1 e3
    obtain rfl : k = 0 := by omega
    exact .inl ⟨by rw [e0, e3], rfl⟩
  · injection e1 with e0 e1 e3
    subst e0
    subst e3
    exact .inr ⟨g, c, cu, rfl, h1, h2, by omega, h4, h5, by rw [← h6, List.take_take]; congr 1; omega⟩
/-- The bytes of a text come behind a row of bytes, or of none. -/
theorem push_any (w : World) (lo : Nat) (v : Value) (cur t : ByteArray) (hown : w.ownsRow lo 5 1 v cur.size (Lib.strCells cur)) (hn : cur.size + t.size ≤ 100000000) (hlo : lo ≤ w.heap.size) :
    ∃ a n c w', (Builtin.append_ #[89, 9] 89 #[v, .string t]).run Tryz.prog w = .ok (.slice a n c) w' ∧
      w'.ownsRow lo 5 1 (.slice a n c) (cur ++ t).size (Lib.strCells (cur ++ t)) ∧ Below lo w w' ∧ (∀ b, b < w.heap.size → v.ownBlock ≠ some b → w'.heap[b]? = w.heap[b]?) := by
  obtain ⟨ti, hti, hz0, hz1, hz2⟩ := info_parts infoB
  obtain ⟨v4, w4, hrun, ho, hg4, hnil⟩ := Lib.run_append_own_string (P := Tryz.prog) w lo 89 9 89 5 ti Tryz.underlying89 Tryz.underlying9 hti hz0 hz1 hz2 _ _ _ hown t (by unfold maxLen; omega) (by omega) hlo
  obtain ⟨a, n, c, rfl⟩ : ∃ a n c, v4 = .slice a n c := by
    rcases ho.2 with ⟨e, _⟩ | ⟨g', cap', c', e, _⟩
    · exact ⟨_, _, _, e⟩
    · exact ⟨_, _, _, e⟩
  refine ⟨a, n, c, w4, hrun, ?_, below_of_grown hg4 hlo (fun b hb => (hown.lt b hb).1), fun b hb hne => hg4.block b hb (fun e => hne e.symm)⟩
  rw [ByteArray.size_append, strCells_snoc]; exact ho
theorem append_str {P : Program} {w : World} {ops : Array Oper} {rest : List Oper} {o : Oper} {a : Act} {Q : Exit → Act → World → Prop}
    (hg : o.guard = none) (s x : Operand) (t u : TypeId) (hop : o.op = Op.call { callee := Callee.builtin Builtin.append, args := #[s, x], argTypes := #[t, u] })
    (v y : Value) (hs : a.eval s = v) (hx : a.eval x = y) (r : Value) (w' : World) (hrun : (Builtin.append_ #[t, u] o.type #[v, y]).run P w = .ok r w')
    (hK : wpList P ops Q rest (a.put o.dst r) w') : wpList P ops Q (o :: rest) a w := by
  refine wpList_plain hg fun K hK' => ?_
  unfold Oper.wp execOp
  simp only [hop, resolve, invoke, builtin, Sem.run_bind, Sem.run_pure, Result.andThen_ok, List.map_toArray, List.map_cons, List.map_nil, hs, hx, hrun]
  exact hK' _ _ hK
/-- What is panicked with. -/
def faultE (code p : Nat) : Ending := .panicked [{ v := .iface 77 (.agg #[.int .i64 (code : Int), .int .i64 (p : Int)]), recovered := false }]
/-- The frame of a call on the reader at block b: what lies below it, and behind it whatever isn't of the rows' types, is as it was. -/
structure Fq (b : Nat) (w w' : World) : Prop where
  below : Below b w w'
  keep : ∀ k cs T r, b < k → w.heap[k]? = some (.cells cs T r) → T ≠ 92 → T ≠ 5 → w'.heap[k]? = some (.cells cs T r)
theorem Fq.refl (b : Nat) (w : World) : Fq b w w := ⟨Below.refl _ _, fun _ _ _ _ _ h _ _ => h⟩
theorem Fq.trans {b : Nat} {w1 w2 w3 : World} (h : Fq b w1 w2) (k : Fq b w2 w3) : Fq b w1 w3 := ⟨h.below.trans k.below, fun j cs T r hj h1 h2 h3 => k.keep j cs T r hj (h.keep j cs T r hj h1 h2 h3) h2 h3⟩
theorem Fq.drew {b : Nat} {w1 w2 : World} (h : Fq b w1 w2) : Fq b w1 w2.drew := ⟨h.below.drew, h.keep⟩
theorem Fq.of {b : Nat} {w1 w2 : World} (h : Below w1.heap.size w1 w2) (hb : b < w1.heap.size) : Fq b w1 w2 :=
  ⟨h.mono (Nat.le_of_lt hb), fun k _ _ _ _ hk _ _ => (h.block k (Array.getElem?_eq_some_iff.1 hk).1).trans hk⟩
theorem Fq.setB {b : Nat} {w1 w2 : World} (h : Fq b w1 w2) (j : Nat) (u : Value) : Fq b w1 (w2.setCell ⟨b, j, none⟩ u) :=
  ⟨h.below.setCell (Nat.le_refl _) u, fun k cs T r hk h1 h2 h3 => (Below.heap_setCell _ _ _ _ (by show k ≠ b; omega)).trans (h.keep k cs T r hk h1 h2 h3)⟩
theorem row_not {w : World} {base e sz : Nat} {v : Value} {n : Nat} {xs : List Value} (h : w.ownsRow base e sz v n xs) {k : Nat} {cs : Array Value} {T : Nat} {r : Nat × Nat} (hk : w.heap[k]? = some (.cells cs T r)) (hT : T ≠ e) : v.ownBlock ≠ some k := by
  rcases h.2 with ⟨rfl, _⟩ | ⟨g, cap, cur, rfl, _, hg, _⟩
  · simp [Value.ownBlock]
  · intro hh
    simp only [Value.ownBlock, Option.some.injEq] at hh
    subst hh
    rw [hg] at hk
    injection hk with hk
    injection hk with _ hk _
    exact hT hk.symm
theorem Fq.push {b : Nat} {w1 w2 : World} (hb : Below (b + 1) w1 w2) {base e sz : Nat} {v : Value} {n : Nat} {xs : List Value} (h : w1.ownsRow base e sz v n xs) (he : e = 92 ∨ e = 5) (hot : ∀ k, k < w1.heap.size → v.ownBlock ≠ some k → w2.heap[k]? = w1.heap[k]?) : Fq b w1 w2 :=
  ⟨hb.mono (Nat.le_succ b), fun k cs T r _ hk h2 h3 => (hot k (Array.getElem?_eq_some_iff.1 hk).1 (row_not h hk (by rcases he with rfl | rfl <;> assumption))).trans hk⟩
end Go.Proofs.YtjpcmmfmdoglkalGreatDoor
/- The reader's small methods: sees, put, keep. -/
namespace Go.Proofs.YtjpcmmfmdoglkalGreatDoor
open Go.ChangeShapes Go.WideShapes Go.ChangeAt Go.RowKit Go.Deep
set_option maxHeartbeats 2000000 in
theorem sees_any (b : Nat) (s q : ByteArray) (i : Nat) (l : List Pc) (cur : ByteArray) (fm : Nat) (w : World) (hR : RdM b s i l cur fm w) (hi : i ≤ s.size) (r : Bool) (hr : r = pre (s.extract i s.size) q) :
    Calls Tryz.prog 166 #[.pointer (some ⟨b, 0, none⟩), .string q] w fun e w' => e = .returned (.bool r) ∧ Below w.heap.size w w' := by
  obtain ⟨la, ln, lc, ca, cn, cc, h1, _, _⟩ := hR
  have c0 := h1.c0
  have c1 := h1.c1
  have hi' : (i : Int) ≤ (s.size : Int) := by omega
  have HR : Hid (r = pre (s.extract i s.size) q) := hr
  clear h1 hr
  go_enter Tryz.func166, Tryz.ntmps166
  go_wp2_with fail
  go_quiet ((first | (go_at_call 177; exact Calls.quiet_of_same (hp_any (s.extract i s.size) q _ r HR.out))))
  go_wp2
  go_ret
  exact ⟨rfl, below_drewN _ _⟩
set_option maxHeartbeats 2000000 in
theorem put_any (b : Nat) (s t : ByteArray) (i j : Nat) (l : List Pc) (cur : ByteArray) (fm : Nat) (w : World) (hR : RdM b s i l cur fm w) (hn : cur.size + t.size ≤ 100000000) :
    Calls Tryz.prog 167 #[.pointer (some ⟨b, 0, none⟩), .string t, .int .i64 (j : Int)] w fun e w' => e = .returned (.tuple #[]) ∧ RdM b s j l (cur ++ t) fm w' ∧ Fq b w w' := by
  obtain ⟨la, ln, lc, ca, cn, cc, h1, h2, h3⟩ := hR
  have hlt := h1.lt
  obtain ⟨a, n, c, w1, hrun, ho, hb1, hot⟩ := push_any w (b + 1) _ cur t h3 hn hlt
  have k1 := h1.stays hb1 (Nat.lt_succ_self b)
  have k2 : w1.ownsRow (b + 1) 92 2 (.slice la ln lc) l.length (cellsC l) := row_beside h2 hot (rows_apart h2 h3 (by decide))
  have c3 := h1.c3
  have d3 := k1.c3
  have d1 := k1.c1
  have f3 := k1.fz 3
  have f1 := k1.fz 1
  have HO : Hid (RdM b s j l (cur ++ t) fm ((w1.setCell ⟨b, 3, none⟩ (.slice a n c)).setCell ⟨b, 1, none⟩ (.int .i64 (j : Int)))) := ⟨la, ln, lc, a, n, c, (k1.set3 _).set1 j, row_past (row_past k2), row_past (row_past ho)⟩
  have HB : Hid (Fq b w ((w1.setCell ⟨b, 3, none⟩ (.slice a n c)).setCell ⟨b, 1, none⟩ (.int .i64 (j : Int)))) := ((Fq.push hb1 h3 (.inr rfl) hot).setB _ _).setB _ _
  clear h1 h2 h3 ho hb1 hot k1 k2 hlt hn
  go_enter Tryz.func167, Tryz.ntmps167
  go_wp2_with (at_builtin; refine append_str rfl _ _ 89 9 rfl _ _ rfl rfl _ w1 hrun ?_)
  go_end0
  exact ⟨rfl, HO.out, HB.out⟩
/-- append as one step of a region that draws, its run being known. -/
theorem step_append_runQ {P : Program} {ops : Array Oper} {o : Oper} {a : Act} {w : World} {K : Act → World → Prop} {Q : Exit → Act → World → Prop} {E : Prop}
    (hg : o.guard = none) (s x : Operand) (t : TypeId) (hop : o.op = Op.call { callee := Callee.builtin Builtin.append, args := #[s, x], argTypes := #[t, t] })
    (v u : Value) (hs : a.eval s = v) (hx : a.eval x = u) (r : Value) (w' : World) (hrun : (Builtin.append_ #[t, t] o.type #[v, u]).run P w = .ok r w')
    (hK : K (a.put o.dst r) w') :
    if Region.wanted o (yielded ops a.tmps) = true then Oper.wp P o a w K Q else E := by
  have hw : Region.wanted o (yielded ops a.tmps) = true := by simp [Region.wanted, hg]
  rw [if_pos hw]
  unfold Oper.wp execOp
  simp only [hop, resolve, invoke, builtin, Sem.run_bind, Sem.run_pure, Result.andThen_ok, List.map_toArray, List.map_cons, List.map_nil, hs, hx, hrun]
  exact hK
set_option maxHeartbeats 4000000 in
theorem keep_any (b : Nat) (s : ByteArray) (i : Nat) (l : List Pc) (cur : ByteArray) (fm : Nat) (gl : Bool) (w : World) (hR : RdM b s i l cur fm w) (hn : l.length ≤ 100000000) :
    Calls Tryz.prog 197 #[.pointer (some ⟨b, 0, none⟩), .bool gl] w fun e w' => e = .returned (.tuple #[]) ∧ RdM b s i (l ++ [(cur, gl)]) ByteArray.empty 0 w' ∧ Fq b w w' := by
  obtain ⟨la, ln, lc, ca, cn, cc, h1, h2, h3⟩ := hR
  have hlt := h1.lt
  obtain ⟨v5, w5, hrun5, hsl5, hown5, hbel5, hot5⟩ := push_own (P := Tryz.prog) Tryz.underlying90 infoC rfl (by decide) w.drew (b + 1) _ _ _ h2.drew #[.string cur, .bool gl] rfl (by intro u hu; simp at hu; rcases hu with rfl | rfl <;> rfl) hn (by omega) hlt 90
  obtain ⟨a5, n5, c5, rfl⟩ := hsl5
  have hcv := conv_row (w := w.drew) h3.drew
  have b5 : Below (b + 1) w w5 := ((Below.refl _ w).drew).trans hbel5
  have k1 := h1.stays b5 (Nat.lt_succ_self b)
  have k3 : w5.ownsRow (b + 1) 5 1 (.slice ca cn cc) cur.size (Lib.strCells cur) := row_beside h3.drew hot5 (rows_apart h3 h2 (by decide))
  have k2 : w5.ownsRow (b + 1) 92 2 (.slice a5 n5 c5) (l ++ [(cur, gl)]).length (cellsC (l ++ [(cur, gl)])) := by
    rw [List.length_append, cellsC_app]
    exact hown5
  have hln := row_len h3
  have k30 : w5.ownsRow (b + 1) 5 1 (.slice ca 0 cc) ByteArray.empty.size (Lib.strCells ByteArray.empty) := by
    have := row_take (k := 0) k3 (Nat.zero_le _)
    rw [extract_same] at this
    exact this
  have c2 := h1.c2
  have c3 := h1.c3
  have hA : RdAt b s i (.slice la ln lc) (.slice ca cn cc) fm (w.alloc (.cells #[.string cur, .bool gl] 92)) := h1.stays ((Below.refl _ w).alloc (Nat.le_refl _) _) hlt
  have a2 := hA.c2
  have a3 := hA.c3
  have d2 := k1.c2
  have d3 := k1.c3
  have d4 := k1.c4
  have f2 := k1.fz 2
  have f3 := k1.fz 3
  have f4 := k1.fz 4
  have hne : w.heap.size ≠ b := by omega
  have HO : Hid (RdM b s i (l ++ [(cur, gl)]) ByteArray.empty 0 (((w5.setCell ⟨b, 2, none⟩ (.slice a5 n5 c5)).setCell ⟨b, 3, none⟩ (.slice ca 0 cc)).setCell ⟨b, 4, none⟩ (.int .i64 0))) := ⟨a5, n5, c5, ca, 0, cc, ((k1.set2 _).set3 _).set4 0, row_past (row_past (row_past k2)), row_past (row_past (row_past k30))⟩
  have HB : Hid (Fq b w (((w5.setCell ⟨b, 2, none⟩ (.slice a5 n5 c5)).setCell ⟨b, 3, none⟩ (.slice ca 0 cc)).setCell ⟨b, 4, none⟩ (.int .i64 0))) := (((((Fq.refl b w).drew).trans (Fq.push hbel5 h2.drew (.inl rfl) hot5)).setB _ _).setB _ _).setB _ _
  clear h1 h2 h3 hown5 hbel5 hot5 b5 k1 k2 k3 k30 hA hln hlt hn
  go_enter Tryz.func197, Tryz.ntmps197
  go_wp2_with fail
  go_region_law (refine step_append_runQ (by rfl) _ _ 90 (by rfl) _ _ (by rfl) (by rfl) _ w5 hrun5 ?_)
  all_goals go_wp2_with fail
  all_goals go_end0
  all_goals exact ⟨rfl, HO.out, HB.out⟩
end Go.Proofs.YtjpcmmfmdoglkalGreatDoor
