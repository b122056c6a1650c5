/- spec.MarkAt answers what 'markN' says. -/
import Derived.Test.YtfpkcfedkjjjbacMk
namespace Go.Proofs.Ytfpkcfedkjjjbac
open Go.ChangeShapes Go.WideShapes Go.ChangeAt Go.RowKit
theorem gapP_or (s : ByteArray) (k : Nat) : gapP s k = ((decide (k < s.size) && pW (bt s k)) || brk s k) := by
  unfold gapP brk
  rw [pG_or]
  by_cases h : k < s.size
  · rw [decide_eq_true h, decide_eq_false (show ¬ s.size ≤ k by omega)]; rfl
  · rw [decide_eq_false h, decide_eq_true (show s.size ≤ k by omega)]; rfl
theorem eq3 (s : ByteArray) (p : Nat) (h : p + 3 ≤ s.size) (c : UInt8) (b : Bool) (hb : is3 s p c.toNat = b) : ((s.extract p (p + 3)).toList == [c, c, c]) = b := by
  rw [show [c, c, c] = (ByteArray.mk #[c, c, c]).toList from by rw [ByteArray.toList_eq], ← hb, is3_ext s p h, toList_beq, Bool.eq_iff_iff, decide_eq_true_eq, decide_eq_true_eq]
  constructor
  · intro h'; rw [h']
  · intro h'; exact ba_ext h'
end Go.Proofs.Ytfpkcfedkjjjbac
