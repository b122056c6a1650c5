/- Block scalars: what HeadAt and LiteralAt answer, as plain functions. -/
import Derived.Test.YtfpkcfedkjjjbakLon
import Derived.Test.YtfpkcfedkjjjbakInd
import Derived.Test.YtfpkcfedkjjjbakMk
import Derived.Test.YtfpkcfedkjjjbakSls
namespace Go.Proofs.Ytfpkcfedkjjjbak
open Go.RowKit
/-- The signs behind the first: the digit, the chomp, the place behind them. -/
def hdGo (s : ByteArray) : Nat → Nat → Nat → Nat → Nat × Nat × Nat
  | 0, q, d, c => (d, c, q)
  | f + 1, q, d, c =>
    if s.size ≤ q then (d, c, q)
    else if 49 ≤ bt s q ∧ bt s q ≤ 57 ∧ d = 0 then hdGo s f (q + 1) (bt s q - 48) c
    else if bt s q = 43 ∧ c = 0 then hdGo s f (q + 1) d 2
    else if bt s q = 45 ∧ c = 0 then hdGo s f (q + 1) d 1
    else (d, c, q)
def hdEnd (s : ByteArray) (x : Nat × Nat × Nat) : Nat × Nat × Nat × Nat := if (rest s x.2.2).2 = true then (x.1, x.2.1, (rest s x.2.2).1, 0) else (0, 0, (rest s x.2.2).1, 6)
def hdAt (s : ByteArray) (k : Nat) : Nat × Nat × Nat × Nat :=
  if s.size ≤ k ∨ (bt s k ≠ 124 ∧ bt s k ≠ 62) then (0, 0, k, 10) else hdEnd s (hdGo s (s.size + 1) (k + 1) 0 0)
theorem hd_end {s : ByteArray} {f q d c : Nat} (h : s.size ≤ q) : hdGo s f q d c = (d, c, q) := by
  cases f with
  | zero => rfl
  | succ f => rw [hdGo, if_pos h]
theorem hd_digit {s : ByteArray} {f q d c : Nat} (h : q < s.size) (h1 : 49 ≤ bt s q ∧ bt s q ≤ 57 ∧ d = 0) : hdGo s (f + 1) q d c = hdGo s f (q + 1) (bt s q - 48) c := by rw [hdGo, if_neg (by omega), if_pos h1]
theorem hd_plus {s : ByteArray} {f q d c : Nat} (h : q < s.size) (h1 : ¬ (49 ≤ bt s q ∧ bt s q ≤ 57 ∧ d = 0)) (h2 : bt s q = 43 ∧ c = 0) : hdGo s (f + 1) q d c = hdGo s f (q + 1) d 2 := by rw [hdGo, if_neg (by omega), if_neg h1, if_pos h2]
theorem hd_minus {s : ByteArray} {f q d c : Nat} (h : q < s.size) (h1 : ¬ (49 ≤ bt s q ∧ bt s q ≤ 57 ∧ d = 0)) (h2 : bt s q = 45 ∧ c = 0) : hdGo s (f + 1) q d c = hdGo s f (q + 1) d 1 := by rw [hdGo, if_neg (by omega), if_neg h1, if_neg (by omega), if_pos h2]
theorem hd_stop {s : ByteArray} {f q d c : Nat} (h : q < s.size) (h1 : ¬ (49 ≤ bt s q ∧ bt s q ≤ 57 ∧ d = 0)) (h2 : ¬ (bt s q = 43 ∧ c = 0)) (h3 : ¬ (bt s q = 45 ∧ c = 0)) : hdGo s (f + 1) q d c = (d, c, q) := by rw [hdGo, if_neg (by omega), if_neg h1, if_neg h2, if_neg h3]
/-- The beginning of the line behind. -/
def nx (s : ByteArray) (k : Nat) : Nat := if endL s k < s.size then endL s k + 1 else endL s k
theorem nx_le (s : ByteArray) (k : Nat) (h : k ≤ s.size) : nx s k ≤ s.size := by
  have := fwd_le pN s k h
  unfold nx endL
  split <;> omega
theorem nx_gt (s : ByteArray) (k : Nat) (h : k < s.size) : k < nx s k := by
  have h1 := fwd_ge pN s k
  have h2 := fwd_le pN s k (by omega)
  unfold nx endL
  split
  · omega
  · rename_i hh
    omega
/-- Over lines that are white alone. -/
def dpGo (s : ByteArray) : Nat → Nat → Nat
  | 0, p => p
  | f + 1, p => if p < s.size ∧ lone s p = true ∧ endL s p < s.size then dpGo s f (nx s p) else p
def dpP (s : ByteArray) (p : Nat) : Nat := dpGo s (s.size + 1) p
def dp (s : ByteArray) (p : Nat) (n : Int) : Nat :=
  if s.size ≤ dpP s p ∨ lone s (dpP s p) = true ∨ 0 < markN s (dpP s p) ∨ (ind s (dpP s p) : Int) ≤ n then 60000 else ind s (dpP s p)
end Go.Proofs.Ytfpkcfedkjjjbak
