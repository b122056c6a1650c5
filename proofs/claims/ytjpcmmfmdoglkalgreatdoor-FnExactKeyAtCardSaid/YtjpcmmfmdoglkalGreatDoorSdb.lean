/- The contract of spec.DoubleAt. -/
import Derived.Test.YtjpcmmfmdoglkalGreatDoorSsg
import Derived.Test.YtjpcmmfmdoglkalGreatDoorSes
namespace Go.Proofs.YtjpcmmfmdoglkalGreatDoor
open Go.ChangeShapes Go.WideShapes Go.ChangeAt Go.RowKit Go.Deep
/-- DoubleAt from i on, with the pieces l, the bytes cur, of which keep must stay. -/
def dbGo (s : ByteArray) : Nat → Nat → List Pc → ByteArray → Nat → ByteArray × Nat × Nat
  | 0, _, _, _, _ => (ByteArray.empty, s.size, 3)
  | f + 1, i, l, cur, keep =>
    if s.size ≤ i then (ByteArray.empty, s.size, 3)
    else if bt s i = 34 then (foldFlow (l ++ [(cur, false)]), i + 1, 0)
    else if bt s i = 10 then
      if 0 < markN s (i + 1) then (ByteArray.empty, i + 1, 4)
      else dbGo s f (wh s (i + 1)) (l ++ [(cutB cur keep, false)]) ByteArray.empty 0
    else if bt s i = 92 then
      if i + 1 < s.size ∧ bt s (i + 1) = 10 then
        if 0 < markN s (i + 2) then (ByteArray.empty, i + 2, 4)
        else dbGo s f (wh s (i + 2)) (l ++ [(cutB cur cur.size, true)]) ByteArray.empty 0
      else if (escAt s i).2 = 0 then (ByteArray.empty, i, 5)
      else dbGo s f (escAt s i).2 l (cur ++ (escAt s i).1) (cur ++ (escAt s i).1).size
    else dbGo s f (i + 1) l (cur ++ b1 (bt s i)) keep
def dbAt (s : ByteArray) (k : Nat) : ByteArray × Nat × Nat :=
  if s.size ≤ k ∨ bt s k ≠ 34 then (ByteArray.empty, k, 10) else dbGo s (s.size + 1) (k + 1) [] ByteArray.empty 0
theorem db_end {s : ByteArray} {f i : Nat} {l : List Pc} {cur : ByteArray} {keep : Nat} (h : s.size ≤ i) : dbGo s f i l cur keep = (ByteArray.empty, s.size, 3) := by
  cases f with
  | zero => rfl
  | succ f => rw [dbGo, if_pos h]
theorem db_close {s : ByteArray} {f i : Nat} {l : List Pc} {cur : ByteArray} {keep : Nat} (hi : i < s.size) (h : bt s i = 34) : dbGo s (f + 1) i l cur keep = (foldFlow (l ++ [(cur, false)]), i + 1, 0) := by
  rw [dbGo, if_neg (by omega), if_pos h]
theorem db_mark {s : ByteArray} {f i : Nat} {l : List Pc} {cur : ByteArray} {keep : Nat} (hi : i < s.size) (h : bt s i = 10) (h1 : 0 < markN s (i + 1)) : dbGo s (f + 1) i l cur keep = (ByteArray.empty, i + 1, 4) := by
  rw [dbGo, if_neg (by omega), if_neg (by omega), if_pos h, if_pos h1]
theorem db_line {s : ByteArray} {f i : Nat} {l : List Pc} {cur : ByteArray} {keep : Nat} (hi : i < s.size) (h : bt s i = 10) (h1 : ¬ 0 < markN s (i + 1)) : dbGo s (f + 1) i l cur keep = dbGo s f (wh s (i + 1)) (l ++ [(cutB cur keep, false)]) ByteArray.empty 0 := by
  rw [dbGo, if_neg (by omega), if_neg (by omega), if_pos h, if_neg h1]
theorem db_gmark {s : ByteArray} {f i : Nat} {l : List Pc} {cur : ByteArray} {keep : Nat} (hi : i + 1 < s.size) (h : bt s i = 92) (hg : bt s (i + 1) = 10) (h1 : 0 < markN s (i + 1 + 1)) : dbGo s (f + 1) i l cur keep = (ByteArray.empty, i + 1 + 1, 4) := by
  rw [dbGo, if_neg (by omega), if_neg (by omega), if_neg (by omega), if_pos h, if_pos ⟨hi, hg⟩, if_pos h1]
theorem db_gline {s : ByteArray} {f i : Nat} {l : List Pc} {cur : ByteArray} {keep : Nat} (hi : i + 1 < s.size) (h : bt s i = 92) (hg : bt s (i + 1) = 10) (h1 : ¬ 0 < markN s (i + 1 + 1)) : dbGo s (f + 1) i l cur keep = dbGo s f (wh s (i + 1 + 1)) (l ++ [(cutB cur cur.size, true)]) ByteArray.empty 0 := by
  rw [dbGo, if_neg (by omega), if_neg (by omega), if_neg (by omega), if_pos h, if_pos ⟨hi, hg⟩, if_neg h1]
theorem db_bad {s : ByteArray} {f i : Nat} {l : List Pc} {cur : ByteArray} {keep : Nat} {t : ByteArray} (hi : i < s.size) (h : bt s i = 92) (hg : ¬ (i + 1 < s.size ∧ bt s (i + 1) = 10)) (h1 : escAt s i = (t, 0)) : dbGo s (f + 1) i l cur keep = (ByteArray.empty, i, 5) := by
  rw [dbGo, if_neg (by omega), if_neg (by omega), if_neg (by omega), if_pos h, if_neg hg, h1, if_pos rfl]
theorem db_esc {s : ByteArray} {f i x : Nat} {l : List Pc} {cur : ByteArray} {keep : Nat} {t : ByteArray} (hi : i < s.size) (h : bt s i = 92) (hg : ¬ (i + 1 < s.size ∧ bt s (i + 1) = 10)) (h1 : escAt s i = (t, x)) (hx : x ≠ 0) : dbGo s (f + 1) i l cur keep = dbGo s f x l (cur ++ t) (cur ++ t).size := by
  rw [dbGo, if_neg (by omega), if_neg (by omega), if_neg (by omega), if_pos h, if_neg hg, h1, if_neg hx]
theorem db_byte {s : ByteArray} {f i : Nat} {l : List Pc} {cur : ByteArray} {keep : Nat} (hi : i < s.size) (h : bt s i ≠ 34) (h1 : bt s i ≠ 10) (h2 : bt s i ≠ 92) : dbGo s (f + 1) i l cur keep = dbGo s f (i + 1) l (cur ++ b1 (bt s i)) keep := by
  rw [dbGo, if_neg (by omega), if_neg h, if_neg h1, if_neg h2]
theorem hex_in (s : ByteArray) : ∀ (c i x : Nat), 0 ≤ hexGo s (c + 1) i x → i + (c + 1) ≤ s.size
  | 0, i, x, h => by
    rw [hexGo] at h
    split at h
    · omega
    · omega
  | c + 1, i, x, h => by
    rw [hexGo] at h
    split at h
    · omega
    · split at h
      · omega
      · have := hex_in s c (i + 1) _ h
        omega
theorem rb_size (r : Int) : (rb r).size ≤ 4 := by
  by_cases h : r < 0 ∨ 1114111 < r ∨ (55296 ≤ r ∧ r ≤ 57343)
  · rw [rb_bad r h]; exact Nat.zero_le _
  · by_cases h1 : r < 128
    · rw [rb_1 r (by omega) h1]; show 1 ≤ 4; omega
    · by_cases h2 : r < 2048
      · rw [rb_2 r (by omega) h2]; show 2 ≤ 4; omega
      · by_cases h3 : r < 65536
        · rw [rb_3 r (by omega) h3 (by omega)]; show 3 ≤ 4; omega
        · rw [rb_4 r (by omega) (by omega)]; exact Nat.le_refl _
theorem esc_in {s t : ByteArray} {i x : Nat} (h : escAt s i = (t, x)) (hx : x ≠ 0) : i + 2 ≤ x ∧ x ≤ s.size ∧ t.size ≤ 4 := by
  unfold escAt at h
  split at h
  · injection h with _ h; omega
  · rename_i hq
    split at h
    · injection h with h1 h2
      rw [← h1]
      exact ⟨by omega, by omega, rb_size _⟩
    · split at h
      · injection h with _ h; omega
      · rename_i hn
        split at h
        · injection h with _ h; omega
        · rename_i hb
          injection h with h1 h2
          refine ⟨by omega, ?_, by rw [← h1]; exact rb_size _⟩
          obtain ⟨c, hc⟩ : ∃ c, escN (bt s (i + 1)) = c + 1 := ⟨escN (bt s (i + 1)) - 1, by omega⟩
          rw [hc] at h2 hb
          have h0 : 0 ≤ hexGo s (c + 1) (i + 2) 0 := by
            rcases Int.lt_or_le (hexGo s (c + 1) (i + 2) 0) 0 with h' | h'
            · exact absurd (rb_bad _ (.inl h')) hb
            · exact h'
          have := hex_in s c (i + 2) 0 h0
          omega
theorem append_run2 {P : Program} {w : World} {ops : Array Oper} {rest : List Oper} {o : Oper} {a : Act} {Q : Exit → Act → World → Prop}
    (hg : o.guard = none) (s x : Operand) (t u : TypeId) (hop : o.op = Op.call { callee := Callee.builtin Builtin.append, args := #[s, x], argTypes := #[t, u] })
    (v y : Value) (hs : a.eval s = v) (hx : a.eval x = y) (r : Value) (w' : World) (hrun : (Builtin.append_ #[t, u] o.type #[v, y]).run P w = .ok r w')
    (hK : wpList P ops Q rest (a.put o.dst r) w') : wpList P ops Q (o :: rest) a w := by
  refine wpList_plain hg fun K hK' => ?_
  unfold Oper.wp execOp
  simp only [hop, resolve, invoke, builtin, Sem.run_bind, Sem.run_pure, Result.andThen_ok, List.map_toArray, List.map_cons, List.map_nil, hs, hx, hrun]
  exact hK' _ _ hK
/-- The bytes of a text come behind a row of bytes. -/
theorem push_str (w : World) (lo g cap : Nat) (cur t : ByteArray) (hown : w.ownsRow lo 5 1 (.slice (some ⟨g, 0, none⟩) cur.size cap) cur.size (Lib.strCells cur)) (hn : cur.size + t.size ≤ 100000000) (hlo : lo ≤ w.heap.size) :
    ∃ g' c' w', (Builtin.append_ #[89, 9] 89 #[.slice (some ⟨g, 0, none⟩) cur.size cap, .string t]).run Tryz.prog w = .ok (.slice (some ⟨g', 0, none⟩) (cur ++ t).size c') w' ∧
      w'.ownsRow lo 5 1 (.slice (some ⟨g', 0, none⟩) (cur ++ t).size c') (cur ++ t).size (Lib.strCells (cur ++ t)) ∧ Below lo w w' ∧ (∀ b, b < w.heap.size → (Value.slice (some ⟨g, 0, none⟩) cur.size cap).ownBlock ≠ some b → w'.heap[b]? = w.heap[b]?) := by
  obtain ⟨ti, hti, hz0, hz1, hz2⟩ := info_parts infoB
  obtain ⟨v4, w4, hrun, ho, hg4, hnil⟩ := Lib.run_append_own_string (P := Tryz.prog) w lo 89 9 89 5 ti Tryz.underlying89 Tryz.underlying9 hti hz0 hz1 hz2 _ _ _ hown t (by unfold maxLen; omega) (by omega) hlo
  rcases ho.2 with ⟨e, _⟩ | ⟨g', cap', c', e, rest⟩
  · have := (hnil.1 e).1
    cases this
  · subst e
    refine ⟨g', cap', w4, ?_, ?_, below_of_grown hg4 hlo (fun b hb => (hown.lt b hb).1), fun b hb hne => hg4.block b hb (fun e => hne e.symm)⟩
    · rw [ByteArray.size_append]; exact hrun
    · rw [ByteArray.size_append, strCells_snoc]; exact ho
theorem rows_below {w w' : World} {lo e sz : Nat} {v : Value} {n : Nat} {xs : List Value} (h : w.ownsRow lo e sz v n xs) (hb : Below w.heap.size w w') : w'.ownsRow lo e sz v n xs := row_same h (fun k _ hk => hb.block k hk)
set_option maxRecDepth 100000 in
set_option maxHeartbeats 32000000 in
theorem spec_doubleAt (s : ByteArray) (p : Int) (w : World) (hs : s.size ≤ 1048576) (T : ByteArray) (E C : Nat) (hr : dbAt s (cl s.size p) = (T, E, C)) :
    Calls Tryz.prog 29 #[.string s, .int .i64 p] w fun e w' => e = .returned (.tuple #[.string T, .int .i64 (E : Int), .int .i64 (C : Int)]) ∧ Below w.heap.size w w' := by
  have hcl := cl_le s.size p
  have hmx : s.size ≤ mx := by unfold mx; omega
  have HR0 : Hid (dbAt s (cl s.size p) = (T, E, C)) := hr
  clear hr
  go_enter Tryz.func29, Tryz.ntmps29
  go_wp2_with fail
  refine (l01P_any _ _ _ hmx).mono ?_
  rintro e w ⟨rfl, rfl⟩
  generalize cl s.size p = k at *
  by_cases hk : k < s.size
  · have hk' : ¬ (s.size : Int) ≤ (k : Int) := by omega
    have hkn : ¬ s.size ≤ k := by omega
    by_cases hq : (s[k]'hk).toNat = 34
    · have hq' : (((s[k]'hk).toNat : Int) != 34) = false := by rw [hq]; rfl
      have HG0 : Hid (dbGo s (s.size + 1) (k + 1) [] ByteArray.empty 0 = (T, E, C)) := by
        show _ = (T, E, C)
        rw [← HR0.out]; unfold dbAt
        rw [if_neg (by rw [← bt_get s k hk]; omega)]
      clear hq HR0
      go_wp2_with fail
      obtain ⟨lo, hlo⟩ : ∃ lo, w.heap.size = lo := ⟨_, rfl⟩
      have HLOE : Hid (w.heap.size = lo) := hlo
      rw [hlo]
      go_loopw [7, 8, 9, 10] (fun lv cv kv iv wr => ∃ (i f g cap keep : Nat) (l : List Pc) (cur : ByteArray) (l0 : Option Addr) (l1 l2 : Nat), iv = .int .i64 i ∧ kv = .int .i64 (keep : Int) ∧ lv = .slice l0 l1 l2 ∧ cv = .slice (some ⟨g, 0, none⟩) cur.size cap ∧ i ≤ s.size ∧ Hid (s.size < f + i) ∧ Hid (wr.ownsRow lo 92 2 (.slice l0 l1 l2) l.length (cellsC l)) ∧ Hid (wr.ownsRow lo 5 1 (.slice (some ⟨g, 0, none⟩) cur.size cap) cur.size (Lib.strCells cur)) ∧ Hid (dbGo s f i l cur keep = (T, E, C)) ∧ Hid (totC l + l.length + cur.size ≤ 2 * i ∧ keep ≤ cur.size) ∧ Hid (lo ≤ wr.heap.size) ∧ Hid (Below lo w wr)) (fun _ _ _ iv _ => s.size + 2 - (intOf iv).toNat)
      case atStart =>
        refine ⟨k + 1, s.size + 1, lo + 1, 0, 0, [], ByteArray.empty, some ⟨lo, 0, none⟩, 0, 0, by go_num, rfl, rfl, ?_, hk, ?_, ?_, ?_, HG0, ?_, ?_, ?_⟩
        · show Value.slice _ _ _ = _; rfl
        · show s.size < s.size + 1 + (k + 1); omega
        · rw [← HLOE.out]; exact (World.ownsRow_made w #[] 0 (Nat.le_refl _) (by unfold maxLen; omega) rfl).alloc _
        · have h := World.ownsRow_made (base := w.heap.size) (e := 5) (size := 1) (w.alloc (.cells #[] 92)) #[] 0 (by simp) (by unfold maxLen; omega) rfl
          rw [show (w.alloc (.cells #[] 92)).heap.size = lo + 1 by rw [← HLOE.out]; simp] at h
          rw [← HLOE.out] at h ⊢
          exact h
        · show 0 + 0 + 0 ≤ 2 * (k + 1) ∧ 0 ≤ 0; omega
        · rw [← HLOE.out]; show w.heap.size ≤ _; simp; omega
        · rw [← HLOE.out]; exact ((Below.refl _ w).alloc (Nat.le_refl _) _).alloc (by simp) _
      case round =>
        obtain ⟨i, f, g, cap, keep, l, cur, l0, l1, l2, rfl, rfl, rfl, rfl, hi, HF, HL, HC, HG, HT, HLO, HB⟩ := hrel
        have HBW0 : Hid (Below w.heap.size w wr) := by rw [HLOE.out]; exact HB.out
        by_cases hlt : i < s.size
        · have hlt' : (i : Int) < (s.size : Int) := by omega
          obtain ⟨f, rfl⟩ : ∃ f', f = f' + 1 := ⟨f - 1, by have := HF.out; omega⟩
          have hb := bt_get s i hlt
          by_cases h34 : (s[i]'hlt).toNat = 34
          · have t1 : (((s[i]'hlt).toNat : Int) == 34) = true := by rw [h34]; rfl
            have t0 : (((s[i]'hlt).toNat : Int) == 92) = false := by rw [h34]; rfl
            have H34 : Hid (bt s i = 34) := by show bt s i = 34; rw [← hb]; exact h34
            clear h34
            have HRES : Hid ((foldFlow (l ++ [(cur, false)]), i + 1, 0) = (T, E, C)) := by
              show _ = (T, E, C)
              rw [← HG.out, db_close hlt H34.out]
            have hcv := Lib.run_convert_whole (P := Tryz.prog) wr 89 5 9 Tryz.underlying89 Tryz.underlying5 Tryz.underlying9 g 0 cur (bytes_own HC.out) cap
            obtain ⟨v5, w5, hrun5, hsl5, hown5, hbel5, hot5⟩ := push_own (P := Tryz.prog) Tryz.underlying90 infoC rfl (by decide) wr lo _ _ _ HL.out #[.string cur, .bool false] rfl (by intro u hu; simp at hu; rcases hu with rfl | rfl <;> rfl) (by have := HT.out; omega) (by omega) HLO.out 90
            obtain ⟨g5, c5, rfl⟩ := own_slice hown5
            have HL5 : Hid (w5.ownsRow lo 92 2 (.slice (some ⟨g5, 0, none⟩) (l.length + 1) c5) (l ++ [(cur, false)]).length (cellsC (l ++ [(cur, false)]))) := by
              show w5.ownsRow _ _ _ _ _ _
              rw [List.length_append, cellsC_snoc]
              exact hown5
            have HB5 : Hid (Below lo w w5) := HB.out.trans hbel5
            have HLO5 : Hid (lo ≤ w5.heap.size) := Nat.le_trans HLO.out hbel5.size
            clear hsl5 hown5 hbel5 hot5
            have cF := spec_foldFlow w5 _ (l ++ [(cur, false)]) (slc_row HL5.out) (by rw [totC_snoc, List.length_append]; have := HT.out; simp; omega)
            have HBX : Hid (Below w.heap.size w w5) := by rw [HLOE.out]; exact HB5.out
            obtain ⟨Y, hY⟩ : ∃ Y, foldFlow (l ++ [(cur, false)]) = Y := ⟨_, rfl⟩
            rw [hY] at cF HRES
            clear hY HG hb
            go_wp2_with (at_builtin; refine append_run rfl _ _ 90 rfl _ _ rfl rfl _ w5 hrun5 ?_)
            refine cF.mono ?_
            rintro e9 w9 ⟨rfl, hb9⟩
            have hB9 : Below w.heap.size w w9 := HBX.out.trans (hb9.mono HBX.out.size)
            clear cF hb9
            go_wp2_with fail
            go_ret3
            have e0 := HRES.out
            injection e0 with e1 e2
            injection e2 with e2 e3
            subst e1
            subst e2
            subst e3
            exact ⟨by first | rfl | simp, hB9⟩
          · have t1 : (((s[i]'hlt).toNat : Int) == 34) = false := by rw [beq_eq_false_iff_ne]; omega
            have N34 : Hid (bt s i ≠ 34) := by show bt s i ≠ 34; rw [← hb]; exact h34
            by_cases h10 : (s[i]'hlt).toNat = 10
            · have t3 : (((s[i]'hlt).toNat : Int) == 10) = true := by rw [h10]; rfl
              have t0 : (((s[i]'hlt).toNat : Int) == 92) = false := by rw [h10]; rfl
              have H10 : Hid (bt s i = 10) := by show bt s i = 10; rw [← hb]; exact h10
              clear h10 h34 hb
              have hBy := bytes_own HC.out
              have cC := cut_any wr g cap keep cur hBy (own_cap HC.out) (by have := HT.out; omega) (by have := HT.out; omega)
              obtain ⟨X, hX⟩ : ∃ X, cutB cur keep = X := ⟨_, rfl⟩
              have hXs : X.size ≤ cur.size := by rw [← hX]; exact cutB_size _ _
              rw [hX] at cC
              have HX : Hid (cutB cur keep = X) := hX
              clear hX hBy
              obtain ⟨v5, w5, hrun5, hsl5, hown5, hbel5, hot5⟩ := push_own (P := Tryz.prog) Tryz.underlying90 infoC rfl (by decide) wr lo _ _ _ HL.out #[.string X, .bool false] rfl (by intro u hu; simp at hu; rcases hu with rfl | rfl <;> rfl) (by have := HT.out; omega) (by omega) HLO.out 90
              obtain ⟨g5, c5, rfl⟩ := own_slice hown5
              have HL5 : Hid (w5.ownsRow lo 92 2 (.slice (some ⟨g5, 0, none⟩) (l.length + 1) c5) (l ++ [(X, false)]).length (cellsC (l ++ [(X, false)]))) := by
                show w5.ownsRow _ _ _ _ _ _
                rw [List.length_append, cellsC_snoc]
                exact hown5
              have HB5 : Hid (Below lo w w5) := HB.out.trans hbel5
              have HLO5 : Hid (lo ≤ w5.heap.size) := Nat.le_trans HLO.out hbel5.size
              clear hsl5 hown5 hbel5 hot5
              have cM := spec_mark s ((i + 1 : Nat) : Int) (w5.alloc (.cells #[] 5)) hmx
              rw [cl_nat _ _ (by omega)] at cM
              obtain ⟨mk, hmk⟩ : ∃ mk, markN s (i + 1) = mk := ⟨_, rfl⟩
              have HMK : Hid (markN s (i + 1) = mk) := hmk
              rw [hmk] at cM
              clear hmk
              have hi1 : ((i + 1 : Nat) : Int) = (i : Int) + 1 := by omega
              rw [hi1] at cM
              by_cases hm0 : 0 < mk
              · have hm0' : (0 : Int) < (mk : Int) := by omega
                have HRES : Hid ((ByteArray.empty, i + 1, 4) = (T, E, C)) := by
                  show _ = (T, E, C)
                  rw [← HG.out, db_mark hlt H10.out (by rw [HMK.out]; exact hm0)]
                have HBX : Hid (Below w.heap.size w (w5.alloc (.cells #[] 5))) := by
                  have h := HB5.out
                  rw [← HLOE.out] at h
                  exact h.alloc h.size _
                clear HG hm0 hi1
                go_wp2_with fail
                refine cC.mono ?_
                rintro e9 wz ⟨rfl, rfl⟩
                clear cC
                go_wp2_with (at_builtin; refine append_run rfl _ _ 90 rfl _ _ rfl rfl _ w5 hrun5 ?_)
                refine cM.mono ?_
                rintro e9 wz ⟨rfl, rfl⟩
                clear cM
                go_wp2_with fail
                go_ret3
                have e0 := HRES.out
                injection e0 with e1 e2
                injection e2 with e2 e3
                subst e1
                subst e2
                subst e3
                exact ⟨by first | rfl | simp | (simp; omega), by first | exact HBX.out | (have h := HB5.out; exact h.alloc HLO5.out _)⟩
              · have hm0' : ¬ (0 : Int) < (mk : Int) := by omega
                have cW := spec_white_nat s (i + 1) (wh s (i + 1)) (w5.alloc (.cells #[] 5)) hmx (by omega) rfl
                have hq1 := wh_ge s (i + 1)
                have hq2 := wh_le s (i + 1) (by omega)
                have HG2 : Hid (dbGo s f (wh s (i + 1)) (l ++ [(X, false)]) ByteArray.empty 0 = (T, E, C)) := by
                  show _ = (T, E, C)
                  rw [← HG.out, db_line hlt H10.out (by rw [HMK.out]; exact hm0), HX.out]
                obtain ⟨q, hqq⟩ : ∃ q, wh s (i + 1) = q := ⟨_, rfl⟩
                rw [hqq] at cW hq1 hq2 HG2
                rw [hi1] at cW
                have HTQ : Hid (totC (l ++ [(X, false)]) + (l ++ [(X, false)]).length + ByteArray.empty.size ≤ 2 * q) := by
                  show totC (l ++ [(X, false)]) + (l ++ [(X, false)]).length + 0 ≤ 2 * q
                  rw [totC_snoc, List.length_append]
                  have := HT.out
                  simp
                  omega
                have HL6 : Hid ((w5.alloc (.cells #[] 5)).ownsRow lo 92 2 (.slice (some ⟨g5, 0, none⟩) (l.length + 1) c5) (l ++ [(X, false)]).length (cellsC (l ++ [(X, false)]))) := HL5.out.alloc _
                have HC6 : Hid ((w5.alloc (.cells #[] 5)).ownsRow lo 5 1 (.slice (some ⟨w5.heap.size, 0, none⟩) ByteArray.empty.size 0) ByteArray.empty.size (Lib.strCells ByteArray.empty)) := World.ownsRow_made w5 #[] 0 HLO5.out (by unfold maxLen; omega) rfl
                have HB6 : Hid (Below lo w (w5.alloc (.cells #[] 5))) := HB5.out.alloc HLO5.out _
                have HLO6 : Hid (lo ≤ (w5.alloc (.cells #[] 5)).heap.size) := by show lo ≤ _; have := HLO5.out; simp; omega
                have HF6 : Hid (s.size < f + q) := by have := HF.out; show s.size < f + q; omega
                have hqe : (q : Int) - 1 + 1 = (q : Int) := by omega
                clear HG hm0 hi1 hqq HT HL HC HB HLO HL5 HB5 HLO5 HF
                go_wp2_with fail
                refine cC.mono ?_
                rintro e9 wz ⟨rfl, rfl⟩
                clear cC
                go_wp2_with (at_builtin; refine append_run rfl _ _ 90 rfl _ _ rfl rfl _ w5 hrun5 ?_)
                refine cM.mono ?_
                rintro e9 wz ⟨rfl, hwz⟩
                subst hwz
                clear cM
                go_wp2_with fail
                refine cW.mono ?_
                rintro e9 wz ⟨rfl, hwz⟩
                subst hwz
                clear cW
                go_wp2_with fail
                go_roundw
                case rel => exact ⟨q, f, w5.heap.size, 0, 0, l ++ [(X, false)], ByteArray.empty, some ⟨g5, 0, none⟩, l.length + 1, c5, by go_num, rfl, rfl, rfl, hq2, HF6, HL6, HC6, HG2, ⟨HTQ.out, Nat.zero_le _⟩, HLO6, HB6⟩
                case measure => simp [intOf]; omega
            · have t3 : (((s[i]'hlt).toNat : Int) == 10) = false := by rw [beq_eq_false_iff_ne]; omega
              have N10 : Hid (bt s i ≠ 10) := by show bt s i ≠ 10; rw [← hb]; exact h10
              by_cases h92 : (s[i]'hlt).toNat = 92
              · have t0 : (((s[i]'hlt).toNat : Int) == 92) = true := by rw [h92]; rfl
                have H92 : Hid (bt s i = 92) := by show bt s i = 92; rw [← hb]; exact h92
                clear h10 h34 h92 hb
                by_cases hl1 : i + 1 < s.size
                · have hl1' : (i : Int) + 1 < (s.size : Int) := by omega
                  have hb1 := bt_get s (i + 1) hl1
                  by_cases hg10 : (s[i + 1]'hl1).toNat = 10
                  · have t4 : (((s[i + 1]'hl1).toNat : Int) == 10) = true := by rw [hg10]; rfl
                    have HG10 : Hid (bt s (i + 1) = 10) := by show bt s (i + 1) = 10; rw [← hb1]; exact hg10
                    clear hg10 hb1
                    have hBy := bytes_own HC.out
                    have cC := cut_any wr g cap cur.size cur hBy (own_cap HC.out) (by have := HT.out; omega) (by have := HT.out; omega)
                    obtain ⟨X, hX⟩ : ∃ X, cutB cur cur.size = X := ⟨_, rfl⟩
                    have hXs : X.size ≤ cur.size := by rw [← hX]; exact cutB_size _ _
                    rw [hX] at cC
                    have HX : Hid (cutB cur cur.size = X) := hX
                    clear hX hBy
                    obtain ⟨v5, w5, hrun5, hsl5, hown5, hbel5, hot5⟩ := push_own (P := Tryz.prog) Tryz.underlying90 infoC rfl (by decide) wr lo _ _ _ HL.out #[.string X, .bool true] rfl (by intro u hu; simp at hu; rcases hu with rfl | rfl <;> rfl) (by have := HT.out; omega) (by omega) HLO.out 90
                    obtain ⟨g5, c5, rfl⟩ := own_slice hown5
                    have HL5 : Hid (w5.ownsRow lo 92 2 (.slice (some ⟨g5, 0, none⟩) (l.length + 1) c5) (l ++ [(X, true)]).length (cellsC (l ++ [(X, true)]))) := by
                      show w5.ownsRow _ _ _ _ _ _
                      rw [List.length_append, cellsC_snoc]
                      exact hown5
                    have HB5 : Hid (Below lo w w5) := HB.out.trans hbel5
                    have HLO5 : Hid (lo ≤ w5.heap.size) := Nat.le_trans HLO.out hbel5.size
                    clear hsl5 hown5 hbel5 hot5
                    have cM := spec_mark s ((i + 1 + 1 : Nat) : Int) (w5.alloc (.cells #[] 5)) hmx
                    rw [cl_nat _ _ (by omega)] at cM
                    obtain ⟨mk, hmk⟩ : ∃ mk, markN s (i + 1 + 1) = mk := ⟨_, rfl⟩
                    have HMK : Hid (markN s (i + 1 + 1) = mk) := hmk
                    rw [hmk] at cM
                    clear hmk
                    have hi1 : ((i + 1 + 1 : Nat) : Int) = (i : Int) + 1 + 1 := by omega
                    rw [hi1] at cM
                    by_cases hm0 : 0 < mk
                    · have hm0' : (0 : Int) < (mk : Int) := by omega
                      have HRES : Hid ((ByteArray.empty, i + 1 + 1, 4) = (T, E, C)) := by
                        show _ = (T, E, C)
                        rw [← HG.out, db_gmark hl1 H92.out HG10.out (by rw [HMK.out]; exact hm0)]
                      have HBX : Hid (Below w.heap.size w (w5.alloc (.cells #[] 5))) := by
                        have h := HB5.out
                        rw [← HLOE.out] at h
                        exact h.alloc h.size _
                      clear HG hm0 hi1
                      go_wp2_with fail
                      refine cC.mono ?_
                      rintro e9 wz ⟨rfl, rfl⟩
                      clear cC
                      go_wp2_with (at_builtin; refine append_run rfl _ _ 90 rfl _ _ rfl rfl _ w5 hrun5 ?_)
                      refine cM.mono ?_
                      rintro e9 wz ⟨rfl, rfl⟩
                      clear cM
                      go_wp2_with fail
                      go_ret3
                      have e0 := HRES.out
                      injection e0 with e1 e2
                      injection e2 with e2 e3
                      subst e1
                      subst e2
                      subst e3
                      exact ⟨by first | rfl | simp | (simp; omega), by first | exact HBX.out | (have h := HB5.out; exact h.alloc HLO5.out _)⟩
                    · have hm0' : ¬ (0 : Int) < (mk : Int) := by omega
                      have cW := spec_white_nat s (i + 1 + 1) (wh s (i + 1 + 1)) (w5.alloc (.cells #[] 5)) hmx (by omega) rfl
                      have hq1 := wh_ge s (i + 1 + 1)
                      have hq2 := wh_le s (i + 1 + 1) (by omega)
                      have HG2 : Hid (dbGo s f (wh s (i + 1 + 1)) (l ++ [(X, true)]) ByteArray.empty 0 = (T, E, C)) := by
                        show _ = (T, E, C)
                        rw [← HG.out, db_gline hl1 H92.out HG10.out (by rw [HMK.out]; exact hm0), HX.out]
                      obtain ⟨q, hqq⟩ : ∃ q, wh s (i + 1 + 1) = q := ⟨_, rfl⟩
                      rw [hqq] at cW hq1 hq2 HG2
                      rw [hi1] at cW
                      have HTQ : Hid (totC (l ++ [(X, true)]) + (l ++ [(X, true)]).length + ByteArray.empty.size ≤ 2 * q) := by
                        show totC (l ++ [(X, true)]) + (l ++ [(X, true)]).length + 0 ≤ 2 * q
                        rw [totC_snoc, List.length_append]
                        have := HT.out
                        simp
                        omega
                      have HL6 : Hid ((w5.alloc (.cells #[] 5)).ownsRow lo 92 2 (.slice (some ⟨g5, 0, none⟩) (l.length + 1) c5) (l ++ [(X, true)]).length (cellsC (l ++ [(X, true)]))) := HL5.out.alloc _
                      have HC6 : Hid ((w5.alloc (.cells #[] 5)).ownsRow lo 5 1 (.slice (some ⟨w5.heap.size, 0, none⟩) ByteArray.empty.size 0) ByteArray.empty.size (Lib.strCells ByteArray.empty)) := World.ownsRow_made w5 #[] 0 HLO5.out (by unfold maxLen; omega) rfl
                      have HB6 : Hid (Below lo w (w5.alloc (.cells #[] 5))) := HB5.out.alloc HLO5.out _
                      have HLO6 : Hid (lo ≤ (w5.alloc (.cells #[] 5)).heap.size) := by show lo ≤ _; have := HLO5.out; simp; omega
                      have HF6 : Hid (s.size < f + q) := by have := HF.out; show s.size < f + q; omega
                      have hqe : (q : Int) - 1 + 1 = (q : Int) := by omega
                      clear HG hm0 hi1 hqq HT HL HC HB HLO HL5 HB5 HLO5 HF
                      go_wp2_with fail
                      refine cC.mono ?_
                      rintro e9 wz ⟨rfl, rfl⟩
                      clear cC
                      go_wp2_with (at_builtin; refine append_run rfl _ _ 90 rfl _ _ rfl rfl _ w5 hrun5 ?_)
                      refine cM.mono ?_
                      rintro e9 wz ⟨rfl, hwz⟩
                      subst hwz
                      clear cM
                      go_wp2_with fail
                      refine cW.mono ?_
                      rintro e9 wz ⟨rfl, hwz⟩
                      subst hwz
                      clear cW
                      go_wp2_with fail
                      go_roundw
                      case rel => exact ⟨q, f, w5.heap.size, 0, 0, l ++ [(X, true)], ByteArray.empty, some ⟨g5, 0, none⟩, l.length + 1, c5, by go_num, rfl, rfl, rfl, hq2, HF6, HL6, HC6, HG2, ⟨HTQ.out, Nat.zero_le _⟩, HLO6, HB6⟩
                      case measure => simp [intOf]; omega
                  · have t4 : (((s[i + 1]'hl1).toNat : Int) == 10) = false := by rw [beq_eq_false_iff_ne]; omega
                    have HNG : Hid (¬ (i + 1 < s.size ∧ bt s (i + 1) = 10)) := by show ¬ _; rintro ⟨_, h⟩; rw [← hb1] at h; exact hg10 h
                    clear hg10 hb1
                    obtain ⟨⟨t, x⟩, hesc⟩ : ∃ p, escAt s i = p := ⟨_, rfl⟩
                    have cE := spec_escapeAt s (i : Int) wr hs t x (by rw [cl_nat _ _ hi]; exact hesc)
                    by_cases hx0 : x = 0
                    · have hx0' : ((x : Int) == 0) = true := by rw [hx0]; rfl
                      have HRES : Hid ((ByteArray.empty, i, 5) = (T, E, C)) := by
                        show _ = (T, E, C)
                        rw [← HG.out, db_bad hlt H92.out HNG.out (by rw [hesc, hx0])]
                      clear hx0 hesc HG HNG
                      go_wp2_with fail
                      refine cE.mono ?_
                      rintro e9 w3 ⟨rfl, hb3⟩
                      clear cE
                      go_wp2_with fail
                      go_ret3
                      have e0 := HRES.out
                      injection e0 with e1 e2
                      injection e2 with e2 e3
                      subst e1
                      subst e2
                      subst e3
                      exact ⟨by first | rfl | simp, by first | exact HBW0.out.trans (hb3.mono HBW0.out.size) | exact HB.out.trans (hb3.mono HLO.out)⟩
                    · have hx0' : ((x : Int) == 0) = false := by rw [beq_eq_false_iff_ne]; omega
                      obtain ⟨hx2, hxs, ht4⟩ := esc_in hesc hx0
                      have HG2 : Hid (dbGo s f x l (cur ++ t) (cur ++ t).size = (T, E, C)) := by
                        show _ = (T, E, C)
                        rw [← HG.out, db_esc hlt H92.out HNG.out hesc hx0]
                      clear hx0 hesc HG HNG
                      go_wp2_with fail
                      refine cE.mono ?_
                      rintro e9 w3 ⟨rfl, hb3⟩
                      clear cE
                      have hL3 := rows_below HL.out hb3
                      have hC3 := rows_below HC.out hb3
                      obtain ⟨g4, c4, w4, hrun, hown, hbel, hot4⟩ := push_str w3 lo g cap cur t hC3 (by have := HT.out; omega) (Nat.le_trans HLO.out hb3.size)
                      have HC4 : Hid (w4.ownsRow lo 5 1 (.slice (some ⟨g4, 0, none⟩) (cur ++ t).size c4) (cur ++ t).size (Lib.strCells (cur ++ t))) := hown
                      have HL4 : Hid (w4.ownsRow lo 92 2 (.slice l0 l1 l2) l.length (cellsC l)) := row_beside hL3 hot4 (rows_apart hL3 hC3 (by decide))
                      have HB3 : Hid (Below lo w w3) := HB.out.trans (hb3.mono HLO.out)
                      have HBW : Hid (Below lo w w4) := HB3.out.trans hbel
                      have HLO4 : Hid (lo ≤ w4.heap.size) := Nat.le_trans (Nat.le_trans HLO.out hb3.size) hbel.size
                      have HT4 : Hid (totC l + l.length + (cur ++ t).size ≤ 2 * x ∧ (cur ++ t).size ≤ (cur ++ t).size) := by
                        show totC l + l.length + (cur ++ t).size ≤ 2 * x ∧ _
                        refine ⟨?_, Nat.le_refl _⟩
                        rw [ByteArray.size_append]
                        have := HT.out
                        omega
                      obtain ⟨Z, hZ⟩ : ∃ Z, cur ++ t = Z := ⟨_, rfl⟩
                      rw [hZ] at hrun HC4 HT4 HG2
                      have hZs : Z.size ≤ 8388608 := by have := HT4.out; omega
                      have hxe : (x : Int) - 1 + 1 = (x : Int) := by omega
                      clear hown hbel hot4 hL3 hC3 hb3 HB3 HC HL HB HLO HT hZ
                      go_wp2_with (at_builtin; refine append_run2 rfl _ _ 89 9 rfl _ _ rfl rfl _ w4 hrun ?_)
                      go_roundw
                      case rel => exact ⟨x, f, g4, c4, Z.size, l, Z, l0, l1, l2, by go_num, rfl, rfl, rfl, hxs, by have := HF.out; show s.size < f + x; omega, HL4, HC4, HG2, HT4.out, HLO4, HBW⟩
                      case measure => simp [intOf]; omega
                · have hl1' : ¬ (i : Int) + 1 < (s.size : Int) := by omega
                  have HNG : Hid (¬ (i + 1 < s.size ∧ bt s (i + 1) = 10)) := by show ¬ _; rintro ⟨h, _⟩; exact hl1 h
                  obtain ⟨⟨t, x⟩, hesc⟩ : ∃ p, escAt s i = p := ⟨_, rfl⟩
                  have cE := spec_escapeAt s (i : Int) wr hs t x (by rw [cl_nat _ _ hi]; exact hesc)
                  by_cases hx0 : x = 0
                  · have hx0' : ((x : Int) == 0) = true := by rw [hx0]; rfl
                    have HRES : Hid ((ByteArray.empty, i, 5) = (T, E, C)) := by
                      show _ = (T, E, C)
                      rw [← HG.out, db_bad hlt H92.out HNG.out (by rw [hesc, hx0])]
                    clear hx0 hesc HG HNG
                    go_wp2_with fail
                    refine cE.mono ?_
                    rintro e9 w3 ⟨rfl, hb3⟩
                    clear cE
                    go_wp2_with fail
                    go_ret3
                    have e0 := HRES.out
                    injection e0 with e1 e2
                    injection e2 with e2 e3
                    subst e1
                    subst e2
                    subst e3
                    exact ⟨by first | rfl | simp, by first | exact HBW0.out.trans (hb3.mono HBW0.out.size) | exact HB.out.trans (hb3.mono HLO.out)⟩
                  · have hx0' : ((x : Int) == 0) = false := by rw [beq_eq_false_iff_ne]; omega
                    obtain ⟨hx2, hxs, ht4⟩ := esc_in hesc hx0
                    have HG2 : Hid (dbGo s f x l (cur ++ t) (cur ++ t).size = (T, E, C)) := by
                      show _ = (T, E, C)
                      rw [← HG.out, db_esc hlt H92.out HNG.out hesc hx0]
                    clear hx0 hesc HG HNG
                    go_wp2_with fail
                    refine cE.mono ?_
                    rintro e9 w3 ⟨rfl, hb3⟩
                    clear cE
                    have hL3 := rows_below HL.out hb3
                    have hC3 := rows_below HC.out hb3
                    obtain ⟨g4, c4, w4, hrun, hown, hbel, hot4⟩ := push_str w3 lo g cap cur t hC3 (by have := HT.out; omega) (Nat.le_trans HLO.out hb3.size)
                    have HC4 : Hid (w4.ownsRow lo 5 1 (.slice (some ⟨g4, 0, none⟩) (cur ++ t).size c4) (cur ++ t).size (Lib.strCells (cur ++ t))) := hown
                    have HL4 : Hid (w4.ownsRow lo 92 2 (.slice l0 l1 l2) l.length (cellsC l)) := row_beside hL3 hot4 (rows_apart hL3 hC3 (by decide))
                    have HB3 : Hid (Below lo w w3) := HB.out.trans (hb3.mono HLO.out)
                    have HBW : Hid (Below lo w w4) := HB3.out.trans hbel
                    have HLO4 : Hid (lo ≤ w4.heap.size) := Nat.le_trans (Nat.le_trans HLO.out hb3.size) hbel.size
                    have HT4 : Hid (totC l + l.length + (cur ++ t).size ≤ 2 * x ∧ (cur ++ t).size ≤ (cur ++ t).size) := by
                      show totC l + l.length + (cur ++ t).size ≤ 2 * x ∧ _
                      refine ⟨?_, Nat.le_refl _⟩
                      rw [ByteArray.size_append]
                      have := HT.out
                      omega
                    obtain ⟨Z, hZ⟩ : ∃ Z, cur ++ t = Z := ⟨_, rfl⟩
                    rw [hZ] at hrun HC4 HT4 HG2
                    have hZs : Z.size ≤ 8388608 := by have := HT4.out; omega
                    have hxe : (x : Int) - 1 + 1 = (x : Int) := by omega
                    clear hown hbel hot4 hL3 hC3 hb3 HB3 HC HL HB HLO HT hZ
                    go_wp2_with (at_builtin; refine append_run2 rfl _ _ 89 9 rfl _ _ rfl rfl _ w4 hrun ?_)
                    go_roundw
                    case rel => exact ⟨x, f, g4, c4, Z.size, l, Z, l0, l1, l2, by go_num, rfl, rfl, rfl, hxs, by have := HF.out; show s.size < f + x; omega, HL4, HC4, HG2, HT4.out, HLO4, HBW⟩
                    case measure => simp [intOf]; omega
              · have t0 : (((s[i]'hlt).toNat : Int) == 92) = false := by rw [beq_eq_false_iff_ne]; omega
                have HG2 : Hid (dbGo s f (i + 1) l (cur ++ b1 (bt s i)) keep = (T, E, C)) := by
                  show _ = (T, E, C)
                  rw [← HG.out, db_byte hlt N34.out N10.out (by rw [← hb]; exact h92)]
                have HKP : Hid (keep ≤ (cur ++ b1 (bt s i)).size) := by show keep ≤ (cur ++ b1 (bt s i)).size; rw [ByteArray.size_append]; have := HT.out; omega
                clear h10 h34 h92 hb HG N34 N10
                obtain ⟨v4, w4, hrun, hsl4, hown, hbel, hot4⟩ := push_own (P := Tryz.prog) Tryz.underlying89 infoB rfl (by decide) wr lo _ _ _ HC.out #[.int .u8 ((s[i]'hlt).toNat : Int)] rfl (by intro u hu; simp at hu; subst hu; rfl) (by have := HT.out; omega) (by omega) HLO.out 89
                obtain ⟨g4, c4, rfl⟩ := own_slice hown
                have HC4 : Hid (w4.ownsRow lo 5 1 (.slice (some ⟨g4, 0, none⟩) (cur ++ b1 (bt s i)).size c4) (cur ++ b1 (bt s i)).size (Lib.strCells (cur ++ b1 (bt s i)))) := by
                  show w4.ownsRow _ _ _ _ _ _
                  rw [ByteArray.size_append, strCells_snoc, b1_get s i hlt]
                  exact hown
                have HL4 : Hid (w4.ownsRow lo 92 2 (.slice l0 l1 l2) l.length (cellsC l)) := row_beside HL.out hot4 (rows_apart HL.out HC.out (by decide))
                have HB4 : Hid (Below lo w wr → Below lo w w4) := fun h => h.trans hbel
                have HBW : Hid (Below lo w w4) := HB4.out HB.out
                have HLO4 : Hid (lo ≤ w4.heap.size) := Nat.le_trans HLO.out hbel.size
                have HT4 : Hid (totC l + l.length + (cur ++ b1 (bt s i)).size ≤ 2 * (i + 1)) := by
                  show totC l + l.length + (cur ++ b1 (bt s i)).size ≤ 2 * (i + 1)
                  rw [ByteArray.size_append]
                  have h1 : (b1 (bt s i)).size = 1 := rfl
                  have := HT.out
                  omega
                have E4 : Hid ((.slice (some ⟨g4, 0, none⟩) (cur.size + 1) c4 : Value) = .slice (some ⟨g4, 0, none⟩) (cur ++ b1 (bt s i)).size c4) := by show (_ : Value) = _; rw [ByteArray.size_append]; rfl
                clear hsl4 hown hbel hot4 HB4 HC HL HB HLO HT
                go_wp2_with (at_builtin; refine append_run rfl _ _ 89 rfl _ _ rfl rfl _ w4 hrun ?_)
                go_roundw
                case rel => exact ⟨i + 1, f, g4, c4, keep, l, cur ++ b1 (bt s i), l0, l1, l2, by go_num, rfl, rfl, E4.out, hlt, by have := HF.out; show s.size < f + (i + 1); omega, HL4, HC4, HG2, ⟨HT4.out, HKP.out⟩, HLO4, HBW⟩
                case measure => simp [intOf]; omega
        · have hlt' : ¬ (i : Int) < (s.size : Int) := by omega
          have HRES : Hid ((ByteArray.empty, s.size, 3) = (T, E, C)) := by
            show _ = (T, E, C)
            rw [← HG.out, db_end (by omega)]
          clear HG
          go_wp2_with fail
          go_ret3
          have e0 := HRES.out
          injection e0 with e1 e2
          injection e2 with e2 e3
          subst e1
          subst e2
          subst e3
          exact ⟨by first | rfl | simp, by first | exact HBW0.out | exact HB.out⟩
    · have hq' : (((s[k]'hk).toNat : Int) != 34) = true := by rw [bne_iff_ne]; omega
      have HRES : Hid ((ByteArray.empty, k, 10) = (T, E, C)) := by
        show _ = (T, E, C)
        rw [← HR0.out]; unfold dbAt
        rw [if_pos (.inr (by rw [← bt_get s k hk]; exact hq))]
      clear hq HR0
      go_wp2_with fail
      go_ret3
      have e0 := HRES.out
      injection e0 with e1 e2
      injection e2 with e2 e3
      subst e1
      subst e2
      subst e3
      exact ⟨by first | rfl | simp, Below.refl _ _⟩
  · have hk' : (s.size : Int) ≤ (k : Int) := by omega
    have HRES : Hid ((ByteArray.empty, k, 10) = (T, E, C)) := by
      show _ = (T, E, C)
      rw [← HR0.out]; unfold dbAt
      rw [if_pos (.inl (by omega))]
    clear HR0
    go_wp2_with fail
    go_ret3
    have e0 := HRES.out
    injection e0 with e1 e2
    injection e2 with e2 e3
    subst e1
    subst e2
    subst e3
    exact ⟨by first | rfl | simp, Below.refl _ _⟩
end Go.Proofs.YtjpcmmfmdoglkalGreatDoor
