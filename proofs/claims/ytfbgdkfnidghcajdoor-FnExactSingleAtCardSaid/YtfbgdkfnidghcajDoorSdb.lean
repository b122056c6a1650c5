/- The contract of spec.DoubleAt. -/
import Derived.Test.YtfbgdkfnidghcajDoorSsg
import Derived.Test.YtfbgdkfnidghcajDoorSes
namespace Go.Proofs.YtfbgdkfnidghcajDoor
open Go.ChangeShapes Go.WideShapes Go.ChangeAt Go.RowKit Go.Deep
/-- DoubleAt from i on, with the pieces l, the bytes cur, of which keep must stay. -/
def dbGo (s : ByteArray) : Nat → Nat → List Pc → ByteArray → Nat → ByteArray × Nat × Nat
  | 0, _, _, _, _ => (ByteArray.empty, s.size, 3)
  | f + 1, i, l, cur, keep =>
    if s.size ≤ i then (ByteArray.empty, s.size, 3)
    else if bt s i = 34 then (foldFlow (l ++ [(cur, false)]), i + 1, 0)
    else if bt s i = 10 then
      if 0 < markN s (i + 1) then (ByteArray.empty, i + 1, 4)
      else dbGo s f (wh s (i + 1)) (l ++ [(cutB cur keep, false)]) ByteArray.empty 0
    else if bt s i = 92 then
      if i + 1 < s.size ∧ bt s (i + 1) = 10 then
        if 0 < markN s (i + 2) then (ByteArray.empty, i + 2, 4)
        else dbGo s f (wh s (i + 2)) (l ++ [(cutB cur cur.size, true)]) ByteArray.empty 0
      else if (escAt s i).2 = 0 then (ByteArray.empty, i, 5)
      else dbGo s f (escAt s i).2 l (cur ++ (escAt s i).1) (cur ++ (escAt s i).1).size
    else dbGo s f (i + 1) l (cur ++ b1 (bt s i)) keep
def dbAt (s : ByteArray) (k : Nat) : ByteArray × Nat × Nat :=
  if s.size ≤ k ∨ bt s k ≠ 34 then (ByteArray.empty, k, 10) else dbGo s (s.size + 1) (k + 1) [] ByteArray.empty 0
theorem db_end {s : ByteArray} {f i : Nat} {l : List Pc} {cur : ByteArray} {keep : Nat} (h : s.size ≤ i) : dbGo s f i l cur keep = (ByteArray.empty, s.size, 3) := by
  cases f with
  | zero => rfl
  | succ f => rw [dbGo, if_pos h]
theorem db_close {s : ByteArray} {f i : Nat} {l : List Pc} {cur : ByteArray} {keep : Nat} (hi : i < s.size) (h : bt s i = 34) : dbGo s (f + 1) i l cur keep = (foldFlow (l ++ [(cur, false)]), i + 1, 0) := by
  rw [dbGo, if_neg (by omega), if_pos h]
theorem db_mark {s : ByteArray} {f i : Nat} {l : List Pc} {cur : ByteArray} {keep : Nat} (hi : i < s.size) (h : bt s i = 10) (h1 : 0 < markN s (i + 1)) : dbGo s (f + 1) i l cur keep = (ByteArray.empty, i + 1, 4) := by
  rw [dbGo, if_neg (by omega), if_neg (by omega), if_pos h, if_pos h1]
theorem db_line {s : ByteArray} {f i : Nat} {l : List Pc} {cur : ByteArray} {keep : Nat} (hi : i < s.size) (h : bt s i = 10) (h1 : ¬ 0 < markN s (i + 1)) : dbGo s (f + 1) i l cur keep = dbGo s f (wh s (i + 1)) (l ++ [(cutB cur keep, false)]) ByteArray.empty 0 := by
  rw [dbGo, if_neg (by omega), if_neg (by omega), if_pos h, if_neg h1]
theorem db_gmark {s : ByteArray} {f i : Nat} {l : List Pc} {cur : ByteArray} {keep : Nat} (hi : i + 1 < s.size) (h : bt s i = 92) (hg : bt s (i + 1) = 10) (h1 : 0 < markN s (i + 1 + 1)) : dbGo s (f + 1) i l cur keep = (ByteArray.empty, i + 1 + 1, 4) := by
  rw [dbGo, if_neg (by omega), if_neg (by omega), if_neg (by omega), if_pos h, if_pos ⟨hi, hg⟩, if_pos h1]
theorem db_gline {s : ByteArray} {f i : Nat} {l : List Pc} {cur : ByteArray} {keep : Nat} (hi : i + 1 < s.size) (h : bt s i = 92) (hg : bt s (i + 1) = 10) (h1 : ¬ 0 < markN s (i + 1 + 1)) : dbGo s (f + 1) i l cur keep = dbGo s f (wh s (i + 1 + 1)) (l ++ [(cutB cur cur.size, true)]) ByteArray.empty 0 := by
  rw [dbGo, if_neg (by omega), if_neg (by omega), if_neg (by omega), if_pos h, if_pos ⟨hi, hg⟩, if_neg h1]
theorem db_bad {s : ByteArray} {f i : Nat} {l : List Pc} {cur : ByteArray} {keep : Nat} {t : ByteArray} (hi : i < s.size) (h : bt s i = 92) (hg : ¬ (i + 1 < s.size ∧ bt s (i + 1) = 10)) (h1 : escAt s i = (t, 0)) : dbGo s (f + 1) i l cur keep = (ByteArray.empty, i, 5) := by
  rw [dbGo, if_neg (by omega), if_neg (by omega), if_neg (by omega), if_pos h, if_neg hg, h1, if_pos rfl]
theorem db_esc {s : ByteArray} {f i x : Nat} {l : List Pc} {cur : ByteArray} {keep : Nat} {t : ByteArray} (hi : i < s.size) (h : bt s i = 92) (hg : ¬ (i + 1 < s.size ∧ bt s (i + 1) = 10)) (h1 : escAt s i = (t, x)) (hx : x ≠ 0) : dbGo s (f + 1) i l cur keep = dbGo s f x l (cur ++ t) (cur ++ t).size := by
  rw [dbGo, if_neg (by omega), if_neg (by omega), if_neg (by omega), if_pos h, if_neg hg, h1, if_neg hx]
theorem db_byte {s : ByteArray} {f i : Nat} {l : List Pc} {cur : ByteArray} {keep : Nat} (hi : i < s.size) (h : bt s i ≠ 34) (h1 : bt s i ≠ 10) (h2 : bt s i ≠ 92) : dbGo s (f + 1) i l cur keep = dbGo s f (i + 1) l (cur ++ b1 (bt s i)) keep := by
  rw [dbGo, if_neg (by omega), if_neg h, if_neg h1, if_neg h2]
theorem hex_in (s : ByteArray) : ∀ (c i x : Nat), 0 ≤ hexGo s (c + 1) i x → i + (c + 1) ≤ s.size
  | 0, i, x, h => by
    rw [hexGo] at h
    split at h
    · omega
    · omega
  | c + 1, i, x, h => by
    rw [hexGo] at h
    split at h
    · omega
    · split at h
      · omega
      · have := hex_in s c (i + 1) _ h
        omega
theorem rb_size (r : Int) : (rb r).size ≤ 4 := by
  by_cases h : r < 0 ∨ 1114111 < r ∨ (55296 ≤ r ∧ r ≤ 57343)
  · rw [rb_bad r h]; exact Nat.zero_le _
  · by_cases h1 : r < 128
    · rw [rb_1 r (by omega) h1]; show 1 ≤ 4; omega
    · by_cases h2 : r < 2048
      · rw [rb_2 r (by omega) h2]; show 2 ≤ 4; omega
      · by_cases h3 : r < 65536
        · rw [rb_3 r (by omega) h3 (by omega)]; show 3 ≤ 4; omega
        · rw [rb_4 r (by omega) (by omega)]; exact Nat.le_refl _
theorem esc_in {s t : ByteArray} {i x : Nat} (h : escAt s i = (t, x)) (hx : x ≠ 0) : i + 2 ≤ x ∧ x ≤ s.size ∧ t.size ≤ 4 := by
  unfold escAt at h
  split at h
  · injection h with _ h; omega
  · rename_i hq
    split at h
    · injection h with h1 h2
      rw [← h1]
      exact ⟨by omega, by omega, rb_size _⟩
    · split at h
      · injection h with _ h; omega
      · rename_i hn
        split at h
        · injection h with _ h; omega
        · rename_i hb
          injection h with h1 h2
          refine ⟨by omega, ?_, by rw [← h1]; exact rb_size _⟩
          obtain ⟨c, hc⟩ : ∃ c, escN (bt s (i + 1)) = c + 1 := ⟨escN (bt s (i + 1)) - 1, by omega⟩
          rw [hc] at h2 hb
          have h0 : 0 ≤ hexGo s (c + 1) (i + 2) 0 := by
            rcases Int.lt_or_le (hexGo s (c + 1) (i + 2) 0) 0 with h' | h'
            · exact absurd (rb_bad _ (.inl h')) hb
            · exact h'
          have := hex_in s c (i + 2) 0 h0
          omega
theorem append_run2 {P : Program} {w : World} {ops : Array Oper} {rest : List Oper} {o : Oper} {a : Act} {Q : Exit → Act → World → Prop}
    (hg : o.guard = none) (s x : Operand) (t u : TypeId) (hop : o.op = Op.call { callee := Callee.builtin Builtin.append, args := #[s, x], argTypes := #[t, u] })
    (v y : Value) (hs : a.eval s = v) (hx : a.eval x = y) (r : Value) (w' : World) (hrun : (Builtin.append_ #[t, u] o.type #[v, y]).run P w = .ok r w')
    (hK : wpList P ops Q rest (a.put o.dst r) w') : wpList P ops Q (o :: rest) a w := by
  refine wpList_plain hg fun K hK' => ?_
  unfold Oper.wp execOp
  simp only [hop, resolve, invoke, builtin, Sem.run_bind, Sem.run_pure, Result.andThen_ok, List.map_toArray, List.map_cons, List.map_nil, hs, hx, hrun]
  exact hK' _ _ hK
/-- The bytes of a text come behind a row of bytes. -/
theorem push_str (w : World) (lo g cap : Nat) (cur t : ByteArray) (hown : w.ownsRow lo 5 1 (.slice (some ⟨g, 0, none⟩) cur.size cap) cur.size (Lib.strCells cur)) (hn : cur.size + t.size ≤ 100000000) (hlo : lo ≤ w.heap.size) :
    ∃ g' c' w', (Builtin.append_ #[27, 9] 27 #[.slice (some ⟨g, 0, none⟩) cur.size cap, .string t]).run Tryd.prog w = .ok (.slice (some ⟨g', 0, none⟩) (cur ++ t).size c') w' ∧
      w'.ownsRow lo 5 1 (.slice (some ⟨g', 0, none⟩) (cur ++ t).size c') (cur ++ t).size (Lib.strCells (cur ++ t)) ∧ Below lo w w' ∧ (∀ b, b < w.heap.size → (Value.slice (some ⟨g, 0, none⟩) cur.size cap).ownBlock ≠ some b → w'.heap[b]? = w.heap[b]?) := by
  obtain ⟨ti, hti, hz0, hz1, hz2⟩ := info_parts infoB
  obtain ⟨v4, w4, hrun, ho, hg4, hnil⟩ := Lib.run_append_own_string (P := Tryd.prog) w lo 27 9 27 5 ti Tryd.underlying27 Tryd.underlying9 hti hz0 hz1 hz2 _ _ _ hown t (by unfold maxLen; omega) (by omega) hlo
  rcases ho.2 with ⟨e, _⟩ | ⟨g', cap', c', e, rest⟩
  · have := (hnil.1 e).1
    cases this
  · subst e
    refine ⟨g', cap', w4, ?_, ?_, below_of_grown hg4 hlo (fun b hb => (hown.lt b hb).1), fun b hb hne => hg4.block b hb (fun e => hne e.symm)⟩
    · rw [ByteArray.size_append]; exact hrun
    · rw [ByteArray.size_append, strCells_snoc]; exact ho
theorem rows_below {w w' : World} {lo e sz : Nat} {v : Value} {n : Nat} {xs : List Value} (h : w.ownsRow lo e sz v n xs) (hb : Below w.heap.size w w') : w'.ownsRow lo e sz v n xs := row_same h (fun k _ hk => hb.block k hk)
end Go.Proofs.YtfbgdkfnidghcajDoor
