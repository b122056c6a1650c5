/- The words of a line as strings.FieldsFunc cuts them, rune by rune, are those that DirectiveAt's words are, byte by byte. -/
import Derived.Test.YtonhgejfbieanalSdi
import Derived.Lib.FieldsP
import Derived.Lib.TrimU
import Derived.Lib.SlBy
namespace Go.Proofs.Ytonhgejfbieanal
open Go.ChangeShapes Go.WideShapes Go.ChangeAt Go.RowKit
theorem get_btD (s : ByteArray) (i : Nat) : (s.get! i).toNat = bt s i := by cases s; rfl
theorem dec_lo {s : ByteArray} {i : Nat} (h : bt s i < 128) : Utf8.decode s i = (bt s i, 1) := by
  rw [Lib.decode_at, get_btD]
  unfold Lib.decodeN
  rw [if_pos h]
theorem decN_hi (n b0 b1 b2 b3 : Nat) (h : ¬ b0 < 128) : 128 ≤ (Lib.decodeN n b0 b1 b2 b3).1 ∧ (1 < (Lib.decodeN n b0 b1 b2 b3).2 → 128 ≤ b1) ∧ (2 < (Lib.decodeN n b0 b1 b2 b3).2 → 128 ≤ b2) ∧ (3 < (Lib.decodeN n b0 b1 b2 b3).2 → 128 ≤ b3) ∧ (Lib.decodeN n b0 b1 b2 b3).2 ≤ 4 := by
  unfold Lib.decodeN
  rw [if_neg h]
  repeat' split
  all_goals (simp only []; omega)
theorem dec_hi {s : ByteArray} {i : Nat} (h : ¬ bt s i < 128) : 128 ≤ (Utf8.decode s i).1 ∧ ∀ j, i < j → j < i + (Utf8.decode s i).2 → 128 ≤ bt s j := by
  have hd := decN_hi (s.size - i) (s.get! i).toNat (s.get! (i + 1)).toNat (s.get! (i + 2)).toNat (s.get! (i + 3)).toNat (by rw [get_btD]; exact h)
  rw [← Lib.decode_at, get_btD, get_btD, get_btD] at hd
  obtain ⟨h1, h2, h3, h4, h5⟩ := hd
  refine ⟨h1, fun j hj hk => ?_⟩
  rcases (show j = i + 1 ∨ j = i + 2 ∨ j = i + 3 by omega) with rfl | rfl | rfl
  · exact h2 (by omega)
  · exact h3 (by omega)
  · exact h4 (by omega)
/-- The places of the words of a text of one line, from p on. -/
def wdGo (t : ByteArray) : Nat → Nat → List (Nat × Nat)
  | 0, _ => []
  | f + 1, p => if t.size ≤ wh t p then [] else (wh t p, fwd pNg t (wh t p)) :: wdGo t f (fwd pNg t (wh t p))
theorem wdGo_wh {t : ByteArray} {p q : Nat} (h : wh t p = wh t q) : ∀ g, wdGo t g p = wdGo t g q
  | 0 => rfl
  | g + 1 => by rw [wdGo, wdGo, h]
theorem wdGo_end {t : ByteArray} {p : Nat} (h : t.size ≤ p) : ∀ g, wdGo t g p = []
  | 0 => rfl
  | g + 1 => by rw [wdGo, if_pos (Nat.le_trans h (dwh_ge t p))]
theorem pW_white {c : Nat} : pW c = true ↔ c = 32 ∨ c = 9 := by unfold pW; simp
theorem span_both (t : ByteArray) (hn : ∀ i, i < t.size → bt t i ≠ 10) : ∀ (f pos : Nat) (acc : List (Nat × Nat)) (g : Nat), pos ≤ t.size → t.size ≤ pos + f → t.size < pos + g →
    Lib.closeSpans t (Lib.spansFromP pW t f pos none acc) = acc ++ wdGo t g pos ∧
    ∀ a, Lib.closeSpans t (Lib.spansFromP pW t f pos (some a) acc) = acc ++ (a, fwd pNg t pos) :: wdGo t g (fwd pNg t pos)
  | 0, pos, acc, g, h1, h2, h3 => by
    obtain rfl : pos = t.size := by omega
    rw [fwd_end (Nat.le_refl _), wdGo_end (Nat.le_refl _)]
    exact ⟨by simp [Lib.spansFromP, Lib.closeSpans], fun a => by simp [Lib.spansFromP, Lib.closeSpans]⟩
  | f + 1, pos, acc, g, h1, h2, h3 => by
    by_cases hlt : pos < t.size
    · by_cases hw : pW (bt t pos) = true
      · have h128 : bt t pos < 128 := by rcases pW_white.1 hw with e | e <;> omega
        have hd := dec_lo h128
        have hng : pNg (bt t pos) = false := by
          rcases pW_white.1 hw with e | e <;> rw [e] <;> rfl
        have hwh : wh t pos = wh t (pos + 1) := fwd_step hlt hw
        have e1 : ∀ ac, Lib.spansFromP pW t (f + 1) pos none ac = Lib.spansFromP pW t f (pos + 1) none ac := fun ac => by
          rw [Lib.spansFromP, if_pos hlt, hd, if_pos hw]
        have e2 : ∀ a ac, Lib.spansFromP pW t (f + 1) pos (some a) ac = Lib.spansFromP pW t f (pos + 1) none (ac ++ [(a, pos)]) := fun a ac => by
          rw [Lib.spansFromP, if_pos hlt, hd, if_pos hw]
        refine ⟨?_, fun a => ?_⟩
        · rw [e1, (span_both t hn f (pos + 1) acc g (by omega) (by omega) (by omega)).1, wdGo_wh hwh]
        · rw [e2, (span_both t hn f (pos + 1) (acc ++ [(a, pos)]) g (by omega) (by omega) (by omega)).1, fwd_stop hng, wdGo_wh hwh]
          simp
      · have hw' : pW (bt t pos) = false := by simpa using hw
        have hall : pW (Utf8.decode t pos).1 = false ∧ ∀ j, pos ≤ j → j < pos + (Utf8.decode t pos).2 → j < t.size → pNg (bt t j) = true := by
          have hb : ∀ j, j < t.size → pW (bt t j) = false → pNg (bt t j) = true := fun j hj hp => by
            have h10 := hn j hj
            unfold pNg pG
            unfold pW at hp
            simp at hp ⊢
            omega
          by_cases h128 : bt t pos < 128
          · rw [dec_lo h128]
            exact ⟨hw', fun j hj hk hz => by obtain rfl : j = pos := by omega
                                             exact hb j hz hw'⟩
          · obtain ⟨h4, h5⟩ := dec_hi h128
            refine ⟨by unfold pW; simp; omega, fun j hj hk hz => hb j hz ?_⟩
            by_cases e : j = pos
            · rw [e]; exact hw'
            · have := h5 j (by omega) hk
              unfold pW
              simp
              omega
        have hwd := Lib.width_pos t pos
        have hwn : pos + (Utf8.decode t pos).2 ≤ t.size := by
          have := Lib.decodeN_le_n' (t.size - pos) (t.get! pos).toNat (t.get! (pos + 1)).toNat (t.get! (pos + 2)).toNat (t.get! (pos + 3)).toNat (by omega)
          rw [← Lib.decode_at] at this
          omega
        obtain ⟨rr, K, hdc⟩ : ∃ rr K, Utf8.decode t pos = (rr, K) := ⟨_, _, rfl⟩
        rw [hdc] at hall hwd hwn
        replace hwd : 1 ≤ K := hwd
        replace hwn : pos + K ≤ t.size := hwn
        have hfw : fwd pNg t pos = fwd pNg t (pos + K) := fwd_skip _ (by omega) hwn (fun i h1 h2 => hall.2 i h1 h2 (by omega))
        have hwp : wh t pos = pos := fwd_stop hw'
        have e1 : ∀ ac, Lib.spansFromP pW t (f + 1) pos none ac = Lib.spansFromP pW t f (pos + K) (some pos) ac := fun ac => by
          rw [Lib.spansFromP, if_pos hlt, hdc, if_neg (by rw [hall.1]; decide)]
        have e2 : ∀ a ac, Lib.spansFromP pW t (f + 1) pos (some a) ac = Lib.spansFromP pW t f (pos + K) (some a) ac := fun a ac => by
          rw [Lib.spansFromP, if_pos hlt, hdc, if_neg (by rw [hall.1]; decide)]
        refine ⟨?_, fun a => ?_⟩
        · obtain ⟨g', rfl⟩ : ∃ g', g = g' + 1 := ⟨g - 1, by omega⟩
          rw [e1, (span_both t hn f (pos + K) acc g' hwn (by omega) (by omega)).2, ← hfw, wdGo, hwp, if_neg (by omega)]
        · rw [e2, (span_both t hn f (pos + K) acc g hwn (by omega) (by omega)).2, ← hfw]
    · obtain rfl : pos = t.size := by omega
      rw [fwd_end (Nat.le_refl _), wdGo_end (Nat.le_refl _), Lib.spansFromP_end _ _ _ _ _ _ hlt]
      refine ⟨by simp [Lib.closeSpans], fun a => ?_⟩
      rw [Lib.spansFromP_end _ _ _ _ _ _ hlt]
      simp [Lib.closeSpans]
end Go.Proofs.Ytonhgejfbieanal
