/- Plain facts: what digits of a base are worth, and what IntOf answers. -/
import Derived.Test.YtlfamgdmmenonaaDoorLn
namespace Go.Proofs.YtlfamgdmmenonaaDoor
/-- What a sign is worth as a digit. -/
def dig (c : Nat) : Nat := if 48 ≤ c ∧ c ≤ 57 then c - 48 else if 97 ≤ c ∧ c ≤ 102 then c - 87 else if 65 ≤ c ∧ c ≤ 70 then c - 55 else 99
/-- The rest of the digits of a base, and what is worth ahead of them. -/
def digG (s : ByteArray) (b : Nat) : Nat → Nat → Nat → Int
  | 0, _, n => if s.size = 0 then -1 else (n : Int)
  | f + 1, k, n => if b ≤ dig (bt s k) then -1 else if 9007199254740991 < n * b + dig (bt s k) then -1 else digG s b f (k + 1) (n * b + dig (bt s k))
def digV (s : ByteArray) (b : Nat) : Int := digG s b s.size 0 0
theorem digG_end {s : ByteArray} {b k n : Nat} (h : s.size ≤ k) : digG s b (s.size - k) k n = if s.size = 0 then -1 else (n : Int) := by
  rw [show s.size - k = 0 by omega]; rfl
theorem digG_bad {s : ByteArray} {b k n : Nat} (h : k < s.size) (hd : b ≤ dig (bt s k)) : digG s b (s.size - k) k n = -1 := by
  rw [show s.size - k = (s.size - (k + 1)) + 1 by omega, digG, if_pos hd]
theorem digG_big {s : ByteArray} {b k n : Nat} (h : k < s.size) (hd : dig (bt s k) < b) (hn : 9007199254740991 < n * b + dig (bt s k)) : digG s b (s.size - k) k n = -1 := by
  rw [show s.size - k = (s.size - (k + 1)) + 1 by omega, digG, if_neg (by omega), if_pos hn]
theorem digG_step {s : ByteArray} {b k n : Nat} (h : k < s.size) (hd : dig (bt s k) < b) (hn : n * b + dig (bt s k) ≤ 9007199254740991) : digG s b (s.size - k) k n = digG s b (s.size - (k + 1)) (k + 1) (n * b + dig (bt s k)) := by
  rw [show s.size - k = (s.size - (k + 1)) + 1 by omega, digG, if_neg (by omega), if_neg (by omega)]
theorem digG_le (s : ByteArray) (b : Nat) : ∀ (f k n : Nat), n ≤ 9007199254740991 → -1 ≤ digG s b f k n ∧ digG s b f k n ≤ 9007199254740991
  | 0, k, n, h => by rw [digG]; split <;> omega
  | f + 1, k, n, h => by
    rw [digG]
    split
    · omega
    · split
      · omega
      · exact digG_le s b f _ _ (by omega)
theorem digV_le (s : ByteArray) (b : Nat) : -1 ≤ digV s b ∧ digV s b ≤ 9007199254740991 := digG_le s b _ _ _ (by omega)
def finN (v : Int) : Int × Bool := if v < 0 then (0, false) else (v, true)
def negN (v : Int) : Int × Bool := if v < 0 then (0, false) else (-v, true)
/-- What IntOf answers. -/
def numOf (s : ByteArray) : Int × Bool :=
  if 2 < s.size ∧ s.extract 0 2 = ⟨#[48, 111]⟩ then finN (digV (s.extract 2 s.size) 8)
  else if 2 < s.size ∧ s.extract 0 2 = ⟨#[48, 120]⟩ then finN (digV (s.extract 2 s.size) 16)
  else if 1 < s.size ∧ bt s 0 = 45 then negN (digV (s.extract 1 s.size) 10)
  else if 1 < s.size ∧ bt s 0 = 43 then finN (digV (s.extract 1 s.size) 10)
  else finN (digV s 10)
theorem finN_neg {v : Int} (h : v < 0) : finN v = (0, false) := by unfold finN; rw [if_pos h]
theorem finN_pos {v : Int} (h : ¬ v < 0) : finN v = (v, true) := by unfold finN; rw [if_neg h]
theorem negN_neg {v : Int} (h : v < 0) : negN v = (0, false) := by unfold negN; rw [if_pos h]
theorem negN_pos {v : Int} (h : ¬ v < 0) : negN v = (-v, true) := by unfold negN; rw [if_neg h]
end Go.Proofs.YtlfamgdmmenonaaDoor
