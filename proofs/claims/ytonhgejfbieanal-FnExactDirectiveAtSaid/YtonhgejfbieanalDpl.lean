/- The words of a line up to the first that begins with a #: cut at white, they are DirectiveAt's words. -/
import Derived.Test.YtonhgejfbieanalIdh
namespace Go.Proofs.Ytonhgejfbieanal
open Go.ChangeShapes Go.WideShapes Go.ChangeAt Go.RowKit Go.Shelf
open Go.Lib (goFieldsP spansOfP)
theorem bt_cut (s : ByteArray) (a b i : Nat) (hb : b ≤ s.size) (hi : a + i < b) : bt (s.extract a b) i = bt s (a + i) := by
  have hz : (s.extract a b).size = b - a := by rw [ByteArray.size_extract]; omega
  unfold bt
  rw [getElem!_pos (s.extract a b).data i (by show i < (s.extract a b).size; omega), getElem!_pos s.data (a + i) (by show a + i < s.size; omega)]
  simp [ByteArray.data_extract]
theorem size_cut (s : ByteArray) (a b : Nat) (hb : b ≤ s.size) : (s.extract a b).size = b - a := by rw [ByteArray.size_extract]; omega
theorem fwd_cut (P : Nat → Bool) (s : ByteArray) (k e i : Nat) (he : e ≤ s.size) (hi : k + i ≤ e) (hstop : e < s.size → P (bt s e) = false) : fwd P s (k + i) = k + fwd P (s.extract k e) i := by
  have hz := size_cut s k e he
  have h1 := fwd_ge P (s.extract k e) i
  have h2 := fwd_le P (s.extract k e) i (by omega)
  rw [fwd_skip (k + fwd P (s.extract k e) i) (by omega) (by omega) (fun j hj hl => by
    have := fwd_in P (s.extract k e) i (j - k) (by omega) (by omega)
    rw [bt_cut s k e (j - k) he (by omega), show k + (j - k) = j by omega] at this
    exact this)]
  by_cases hlt : fwd P (s.extract k e) i < (s.extract k e).size
  · have := fwd_at P (s.extract k e) i hlt
    rw [bt_cut s k e _ he (by omega)] at this
    exact fwd_stop this
  · by_cases hes : e < s.size
    · exact fwd_stop (by rw [show k + fwd P (s.extract k e) i = e by omega]; exact hstop hes)
    · exact fwd_end (by omega)
theorem ext_cut (s : ByteArray) (k e a b : Nat) (_ : e ≤ s.size) (hb : k + b ≤ e) : (s.extract k e).extract a b = s.extract (k + a) (k + b) := by
  apply ByteArray.ext
  rw [ByteArray.data_extract, ByteArray.data_extract, ByteArray.data_extract, Array.extract_extract]
  congr 1
  omega
/-- The words from the place i of a line on. -/
def wds (t : ByteArray) (f i : Nat) : List ByteArray := (wdGo t f i).map fun x => t.extract x.1 x.2
theorem wds_len (t : ByteArray) : ∀ f i, (wds t f i).length ≤ f
  | 0, _ => Nat.le_refl _
  | f + 1, i => by
    unfold wds
    rw [wdGo]
    split
    · exact Nat.zero_le _
    · have := wds_len t f (fwd pNg t (wh t i))
      unfold wds at this
      simp at this ⊢
      omega
theorem dir_words (s : ByteArray) (k e : Nat) (hk : k ≤ s.size) (he : endL s k = e) : ∀ (f i : Nat) (l : List ByteArray), k + i ≤ e →
    dirGo s e f (k + i) l = l ++ (wds (s.extract k e) f i).take (cutN (wds (s.extract k e) f i)) ∧ ∀ x ∈ wds (s.extract k e) f i, 0 < x.size
  | 0, i, l, _ => by
    refine ⟨?_, fun x hx => by cases hx⟩
    show l = l ++ [].take _
    simp
  | f + 1, i, l, hi => by
    have hes : e ≤ s.size := by rw [← he]; exact fwd_le pN s k hk
    have h10 : e < s.size → bt s e = 10 := fun h => by
      have := fwd_at pN s k (by rw [show fwd pN s k = e from he]; exact h)
      rw [show fwd pN s k = e from he] at this
      unfold pN at this
      simpa using this
    have hz := size_cut s k e hes
    have hwh : wh s (k + i) = k + wh (s.extract k e) i := fwd_cut pW s k e i hes hi (fun h => by rw [h10 h]; rfl)
    have hwl := wh_lt (s.extract k e) i (by omega)
    have hwg := dwh_ge (s.extract k e) i
    rw [dirGo, hwh]
    have hW : wds (s.extract k e) (f + 1) i = if (s.extract k e).size ≤ wh (s.extract k e) i then [] else (s.extract k e).extract (wh (s.extract k e) i) (fwd pNg (s.extract k e) (wh (s.extract k e) i)) :: wds (s.extract k e) f (fwd pNg (s.extract k e) (wh (s.extract k e) i)) := by
      unfold wds
      rw [wdGo]
      split
      · rfl
      · rfl
    by_cases hend : (s.extract k e).size ≤ wh (s.extract k e) i
    · rw [hW, if_pos hend, if_pos (.inl (by omega))]
      refine ⟨by simp [cutN], fun x hx => by cases hx⟩
    · rw [hW, if_neg hend]
      generalize hv : wh (s.extract k e) i = v at *
      have hfw : fwd pNg s (k + v) = k + fwd pNg (s.extract k e) v := fwd_cut pNg s k e v hes (by omega) (fun h => by rw [h10 h]; rfl)
      have hfl := fwd_le pNg (s.extract k e) v (by omega)
      have hlt : k + v < fwd pNg s (k + v) := word_lt he hk (show k ≤ k + i by omega) (by rw [hwh]) (by omega)
      rw [hfw] at hlt ⊢
      generalize fwd pNg (s.extract k e) v = x at *
      obtain ⟨ih1, ih2⟩ := dir_words s k e hk he f x (l ++ [s.extract (k + v) (k + x)]) (by omega)
      have hb0 : bt ((s.extract k e).extract v x) 0 = bt s (k + v) := by
        rw [bt_cut _ v x 0 (by omega) (by omega), bt_cut s k e _ hes (by omega)]
        rfl
      have hxs : ∀ y ∈ (s.extract k e).extract v x :: wds (s.extract k e) f x, 0 < y.size := fun y hy => by
        rcases List.mem_cons.1 hy with h | h
        · rw [h, size_cut _ _ _ (by omega)]; omega
        · exact ih2 y h
      refine ⟨?_, hxs⟩
      by_cases h35 : bt s (k + v) = 35
      · rw [if_pos (.inr h35), cutN, if_pos (by rw [hb0, h35]; rfl)]
        simp
      · rw [if_neg (by omega), ih1, cutN, if_neg (by rw [hb0]; simpa using h35), List.take_succ_cons, ext_cut s k e v x hes (by omega)]
        simp
/-- What FieldsFunc cuts the line into. -/
theorem fields_line (s : ByteArray) (k e : Nat) (hk : k ≤ s.size) (he : endL s k = e) : goFieldsP pW (s.extract k e) = wds (s.extract k e) (s.size + 1) 0 := by
  have hes : e ≤ s.size := by rw [← he]; exact fwd_le pN s k hk
  have hz := size_cut s k e hes
  have hn : ∀ i, i < (s.extract k e).size → bt (s.extract k e) i ≠ 10 := fun i hi => by
    rw [bt_cut s k e i hes (by omega)]
    have := fwd_in pN s k (k + i) (by omega) (by rw [show fwd pN s k = e from he]; omega)
    unfold pN at this
    simpa using this
  have := (span_both (s.extract k e) hn (s.extract k e).size 0 [] (s.size + 1) (Nat.zero_le _) (by omega) (by omega)).1
  unfold goFieldsP wds spansOfP
  rw [this]
  rfl
end Go.Proofs.Ytonhgejfbieanal
