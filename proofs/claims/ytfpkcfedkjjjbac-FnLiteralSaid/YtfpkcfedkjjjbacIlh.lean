/- With a digit impl.LiteralAt and spec.LiteralAt have one answer. -/
import Derived.Test.YtfpkcfedkjjjbacIlg
namespace Go.Proofs.Ytfpkcfedkjjjbac
open Go.RowKit
theorem li_lt (s : ByteArray) (d fr : Nat) : ∀ (f q : Nat) (l : List ByteArray), fr ≤ q → liGo s d fr f q l = ltGo s d f q true l
  | 0, _, _, _ => rfl
  | f + 1, q, l, h => by
    cases he : enI s d q with
    | true =>
      rw [li_end he]
      unfold enI at he
      by_cases h1 : s.size ≤ q ∨ 0 < markN s q
      · rw [lt_end h1]
      · have h2 : lone s q = false ∧ ind s q < d := by
          rw [decide_eq_false (fun h => h1 (.inl h)), decide_eq_false (fun h => h1 (.inr h)), Bool.false_or, Bool.false_or] at he
          simpa using he
        rw [lt_low h2]
    | false =>
      obtain ⟨h1, h2, h3⟩ := en_false he
      have hx := nx_gt s q h1
      have n1 : ¬ (s.size ≤ q ∨ 0 < markN s q) := by omega
      have n2 : ¬ (lone s q = false ∧ ind s q < d) := fun h => by have := h3 h.1; omega
      rw [li_step he, li_lt s d fr f (nx s q) _ (by omega)]
      have ht : tkI s d fr q = (if lone s q = false ∨ (true = true ∧ d < ind s q) then s.extract (q + d) (endL s q) else ByteArray.empty) := by
        unfold tkI
        cases hlo : lone s q with
        | true =>
          by_cases hi : ind s q ≤ d
          · rw [if_pos (.inr ⟨rfl, hi⟩), if_neg (by rintro (h | h); cases h; omega)]
          · rw [if_neg (by rintro (h | h); omega; exact hi h.2), if_pos (.inr ⟨rfl, by omega⟩)]
        | false => rw [if_neg (by rintro (h | h); omega; cases h.1), if_pos (.inl rfl)]
      rw [ltGo, if_neg n1, if_neg n2, ht]
      rfl
theorem lit_same {s : ByteArray} {k : Nat} {n : Int} (h : 0 < (hdAt s k).1) : litI s k n = litAt s k n := by
  have hR : liR s n (hdAt s k) = ltR s n (hdAt s k) := by
    unfold liR ltR
    have e1 : dpI s (nx s (hdAt s k).2.2.1) n (hdAt s k).1 = (ltD s (nx s (hdAt s k).2.2.1) n (hdAt s k).1, nx s (hdAt s k).2.2.1) := by
      unfold dpI ltD dgC
      rw [if_pos h, if_neg (show ¬ (hdAt s k).1 = 0 by omega)]
      congr 1
      by_cases hn : (60000 : Int) < n
      · rw [if_pos hn, if_pos hn]
      · rw [if_neg hn, if_neg hn]
        congr 1
        by_cases h0 : (0 : Int) < n
        · rw [if_pos h0]
        · rw [if_neg h0]; omega
    rw [e1, li_lt _ _ _ _ _ _ (Nat.le_refl _), decide_eq_true h]
  unfold litI litAt
  rw [hR]
end Go.Proofs.Ytfpkcfedkjjjbac
