/- The contract of spec.PlainEnd. -/
import Derived.Test.YtfbgdkfnidghcakGreatDoorSpf
namespace Go.Proofs.YtfbgdkfnidghcakGreatDoor
open Go.ChangeShapes Go.WideShapes Go.ChangeAt Go.RowKit
theorem brk_lt {s : ByteArray} {q : Nat} (h : brk s q = false) : q < s.size := by
  unfold brk at h
  rcases Nat.lt_or_ge q s.size with h' | h'
  · exact h'
  · rw [decide_eq_true h'] at h; cases h
theorem pe_brk {s : ByteArray} {p : Nat} {fl : Bool} {f q : Nat} (h : brk s q = true) : pe1 s p fl f q = q := by
  cases f with
  | zero => rfl
  | succ f => rw [pe1, if_pos h]
theorem pe_stop {s : ByteArray} {p : Nat} {fl : Bool} {q : Nat} (hq : q < s.size) (h : brk s q = false) (hst : stopP s p q fl = true) : pe1 s p fl (s.size - q) q = q := by
  rw [show s.size - q = s.size - (q + 1) + 1 by omega, pe1, if_neg (by rw [h]; simp), if_pos hst]
theorem pe_go {s : ByteArray} {p : Nat} {fl : Bool} {q : Nat} (hq : q < s.size) (h : brk s q = false) (hst : stopP s p q fl = false) : pe1 s p fl (s.size - q) q = pe1 s p fl (s.size - (q + 1)) (q + 1) := by
  rw [show s.size - q = s.size - (q + 1) + 1 by omega, pe1, if_neg (by rw [h]; simp), if_neg (by rw [hst]; simp)]
theorem stop_hash {s : ByteArray} {p q : Nat} {fl : Bool} (h1 : bt s q = 35) (h2 : p < q) (h3 : pW (bt s (q - 1)) = true) : stopP s p q fl = true := by
  unfold stopP; rw [h1, decide_eq_true h2, h3]; rfl
theorem stop_flow {s : ByteArray} {p q : Nat} {fl : Bool} (h : (fl && pF6 (bt s q)) = true) : stopP s p q fl = true := by
  unfold stopP; rw [h]; simp
theorem stop_colon {s : ByteArray} {p q : Nat} {fl : Bool} (h1 : bt s q = 58) (h : (gapP s (q + 1) || (fl && pF6 (bt s (q + 1)))) = true) : stopP s p q fl = true := by
  unfold stopP; rw [h1, h]; simp
theorem stop_none {s : ByteArray} {p q : Nat} {fl : Bool} (h1 : (bt s q == 35 && (decide (p < q) && pW (bt s (q - 1)))) = false) (h2 : (fl && pF6 (bt s q)) = false) (h3 : bt s q ≠ 58 ∨ (gapP s (q + 1) || (fl && pF6 (bt s (q + 1)))) = false) : stopP s p q fl = false := by
  unfold stopP
  rw [h1, h2]
  rcases h3 with h | h
  · rw [show (bt s q == 58) = false from by rw [beq_eq_false_iff_ne]; exact h]; rfl
  · rw [h]; simp
end Go.Proofs.YtfbgdkfnidghcakGreatDoor
