/- Plain facts: a scalar in single quotes, stretch by stretch. -/
import Derived.Test.YtfbgdkfnidghcakGreatDoorSsg
import Derived.Lib.SlTrimSet
namespace Go.Proofs.YtfbgdkfnidghcakGreatDoor
open Go.RowKit
theorem sg_fuel {s : ByteArray} : ∀ (f g i : Nat) (l : List Pc) (cur : ByteArray), s.size < f + i → s.size < g + i → sgGo s f i l cur = sgGo s g i l cur
  | 0, g, i, l, cur, h, _ => by rw [sg_end (by omega), sg_end (by omega)]
  | f + 1, 0, i, l, cur, _, h => by rw [sg_end (by omega), sg_end (by omega)]
  | f + 1, g + 1, i, l, cur, h, h' => by
    have hw := wh_ge s (i + 1)
    by_cases h0 : s.size ≤ i
    · rw [sg_end h0, sg_end h0]
    · have hi : i < s.size := by omega
      by_cases h1 : bt s i = 39
      · by_cases h2 : i + 1 < s.size ∧ bt s (i + 1) = 39
        · rw [sg_two hi h1 h2.1 h2.2, sg_two hi h1 h2.1 h2.2]
          exact sg_fuel f g _ _ _ (by omega) (by omega)
        · rw [sg_close hi h1 h2, sg_close hi h1 h2]
      · by_cases h2 : bt s i = 10
        · by_cases h3 : 0 < markN s (i + 1)
          · rw [sg_mark hi h2 h3, sg_mark hi h2 h3]
          · rw [sg_line hi h2 h3, sg_line hi h2 h3]
            exact sg_fuel f g _ _ _ (by omega) (by omega)
        · rw [sg_byte hi h1 h2, sg_byte hi h1 h2]
          exact sg_fuel f g _ _ _ (by omega) (by omega)
/-- SingleAt from i on. -/
def sgR (s : ByteArray) (i : Nat) (l : List Pc) (cur : ByteArray) : ByteArray × Nat × Nat := sgGo s (s.size + 1) i l cur
theorem sgR_end {s : ByteArray} {i : Nat} {l : List Pc} {cur : ByteArray} (h : s.size ≤ i) : sgR s i l cur = (ByteArray.empty, s.size, 3) := sg_end h
theorem sgR_two {s : ByteArray} {i : Nat} {l : List Pc} {cur : ByteArray} (hi : i < s.size) (h : bt s i = 39) (h1 : i + 1 < s.size) (h2 : bt s (i + 1) = 39) : sgR s i l cur = sgR s (i + 2) l (cur ++ b1 39) := by
  unfold sgR; rw [sg_two hi h h1 h2]; exact sg_fuel _ _ _ _ _ (by omega) (by omega)
theorem sgR_close {s : ByteArray} {i : Nat} {l : List Pc} {cur : ByteArray} (hi : i < s.size) (h : bt s i = 39) (h1 : ¬ (i + 1 < s.size ∧ bt s (i + 1) = 39)) : sgR s i l cur = (foldFlow (l ++ [(cur, false)]), i + 1, 0) := sg_close hi h h1
theorem sgR_mark {s : ByteArray} {i : Nat} {l : List Pc} {cur : ByteArray} (hi : i < s.size) (h : bt s i = 10) (h1 : 0 < markN s (i + 1)) : sgR s i l cur = (ByteArray.empty, i + 1, 4) := sg_mark hi h h1
theorem sgR_line {s : ByteArray} {i : Nat} {l : List Pc} {cur : ByteArray} (hi : i < s.size) (h : bt s i = 10) (h1 : ¬ 0 < markN s (i + 1)) : sgR s i l cur = sgR s (wh s (i + 1)) (l ++ [(cutB cur 0, false)]) ByteArray.empty := by
  have hw := wh_ge s (i + 1)
  unfold sgR; rw [sg_line hi h h1]; exact sg_fuel _ _ _ _ _ (by omega) (by omega)
theorem sgR_byte {s : ByteArray} {i : Nat} {l : List Pc} {cur : ByteArray} (hi : i < s.size) (h : bt s i ≠ 39) (h1 : bt s i ≠ 10) : sgR s i l cur = sgR s (i + 1) l (cur ++ b1 (bt s i)) := by
  unfold sgR; rw [sg_byte hi h h1]; exact sg_fuel _ _ _ _ _ (by omega) (by omega)
theorem extract_same (s : ByteArray) (i : Nat) : s.extract i i = ByteArray.empty := by
  apply ba_ext
  rw [ByteArray.data_extract, Array.toList_extract, List.extract_eq_take_drop, Nat.sub_self, List.take_zero]
  rfl
theorem extract_snoc (s : ByteArray) (i j : Nat) (hij : i ≤ j) (hj : j < s.size) : s.extract i (j + 1) = s.extract i j ++ b1 (bt s j) := by
  apply ba_ext
  have hl : j < s.data.toList.length := by simpa using hj
  have hb : (bt s j).toUInt8 = s.data.toList[j]'hl := by
    rw [← bt_get s j hj]
    show UInt8.ofNat (s[j]'hj).toNat = _
    rw [UInt8.ofNat_toNat]
    rfl
  rw [ByteArray.data_append, Array.toList_append, ByteArray.data_extract, ByteArray.data_extract, Array.toList_extract, Array.toList_extract, List.extract_eq_take_drop, List.extract_eq_take_drop]
  have e : j + 1 - i = (j - i) + 1 := by omega
  rw [e, List.take_add_one]
  congr 1
  rw [List.getElem?_drop, show i + (j - i) = j by omega, List.getElem?_eq_getElem hl]
  show _ = [(bt s j).toUInt8]
  rw [hb]
  rfl
theorem ba_nil (b : ByteArray) : b ++ ByteArray.empty = b := by
  apply ba_ext
  rw [ByteArray.data_append, Array.toList_append]
  show _ ++ [] = _
  rw [List.append_nil]
theorem ba_assoc (a b c : ByteArray) : a ++ b ++ c = a ++ (b ++ c) := by
  apply ba_ext
  simp only [ByteArray.data_append, Array.toList_append, List.append_assoc]
/-- Bytes that stand for themselves. -/
theorem sgR_chunk {s : ByteArray} {i : Nat} {l : List Pc} {cur : ByteArray} : ∀ (n : Nat), i + n ≤ s.size → (∀ k, i ≤ k → k < i + n → bt s k ≠ 39 ∧ bt s k ≠ 10) → sgR s i l cur = sgR s (i + n) l (cur ++ s.extract i (i + n))
  | 0, _, _ => by rw [Nat.add_zero, extract_same, ba_nil]
  | n + 1, h, hk => by
    have ih := sgR_chunk (s := s) (i := i) (l := l) (cur := cur) n (by omega) (fun k h1 h2 => hk k h1 (by omega))
    obtain ⟨a, b⟩ := hk (i + n) (by omega) (by omega)
    rw [ih, sgR_byte (by omega) a b, ba_assoc, ← extract_snoc s i (i + n) (by omega) (by omega)]
    rfl
/-- What TrimRight leaves of what is behind keep. -/
theorem trim_snoc (l cs : List UInt8) (x : UInt8) : Lib.trimRightS (l ++ [x]) cs = if cs.contains x = true then Lib.trimRightS l cs else l ++ [x] := by
  unfold Lib.trimRightS
  rw [List.reverse_append, List.reverse_singleton, List.singleton_append, List.dropWhile_cons]
  split
  · rfl
  · rw [List.reverse_cons, List.reverse_reverse]
theorem white_has {b : ByteArray} {k : Nat} (hk : k < b.size) : [32, 9].contains (b.data.toList[k]'(by simpa using hk)) = pW (bt b k) := by
  have h := pW_signs (bt b k) (bt_lt b k)
  have hb : (bt b k).toUInt8 = b.data.toList[k]'(by simpa using hk) := by
    rw [← bt_get b k hk]
    show UInt8.ofNat (b[k]'hk).toNat = _
    rw [UInt8.ofNat_toNat]
    rfl
  rw [h, hb]
theorem cutN_trim (b : ByteArray) (keep : Nat) : ∀ k, keep ≤ k → k ≤ b.size → cutN b keep k = keep + (Lib.trimRightS ((b.data.toList.take k).drop keep) [32, 9]).length := by
  intro k
  induction k with
  | zero =>
    intro h _
    obtain rfl : keep = 0 := by omega
    rfl
  | succ k ih =>
    intro h hk
    by_cases e : keep = k + 1
    · subst e
      rw [cutN_low (Nat.le_refl _), List.drop_eq_nil_of_le (by rw [List.length_take]; omega)]
      rfl
    · have hl : k < b.data.toList.length := by rw [Array.length_toList]; exact hk
      have ht : (b.data.toList.take (k + 1)).drop keep = (b.data.toList.take k).drop keep ++ [b.data.toList[k]'hl] := by
        rw [List.take_add_one, List.getElem?_eq_getElem hl, List.drop_append_of_le_length (by rw [List.length_take]; omega)]
        rfl
      rw [ht, trim_snoc, white_has (by omega)]
      by_cases hw : pW (bt b k) = true
      · rw [cutN_step (by omega) hw, if_pos hw]
        exact ih (by omega) (by omega)
      · rw [cutN_stop (fun h => hw h.2), if_neg hw, List.length_append, List.length_drop, List.length_take]
        simp
        omega
theorem cutN_all (b : ByteArray) (keep : Nat) (h : keep ≤ b.size) : cutN b keep b.size = keep + (Lib.trimRightS (b.data.toList.drop keep) [32, 9]).length := by
  rw [cutN_trim b keep b.size h (Nat.le_refl _), List.take_of_length_le (by simp)]
theorem cutB_whole (b : ByteArray) : cutB b b.size = b := by
  unfold cutB
  rw [cutN_low (Nat.le_refl _)]
  exact ByteArray.extract_zero_size
end Go.Proofs.YtfbgdkfnidghcakGreatDoor
