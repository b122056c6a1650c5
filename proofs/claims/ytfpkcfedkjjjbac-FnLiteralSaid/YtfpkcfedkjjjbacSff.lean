/- The contract of spec.FoldFlow. -/
import Derived.Test.YtfpkcfedkjjjbacSls
import Derived.Test.YtfpkcfedkjjjbacProg
import Derived.WalkLawsBesides
import Derived.WalkSpells
import Derived.WalkMore
import Derived.Deep.QuietTactic
import Derived.BigQuiet
import Derived.Deep.Light
namespace Go.Proofs.Ytfpkcfedkjjjbac
open Go.ChangeShapes Go.WideShapes Go.ChangeAt Go.RowKit
theorem ff_skip {L k n : Nat} {t : List Pc} {out : ByteArray} {g : Bool} (h0 : 0 < k) (h1 : k + 1 < L) : ffGo L k ((ByteArray.empty, false) :: t) out n g = ffGo L (k + 1) t out (n + 1) g := by
  rw [ffGo, if_pos ⟨h0, h1, rfl, rfl⟩]
theorem ff_take {L k n : Nat} {x : ByteArray} {gx : Bool} {t : List Pc} {out : ByteArray} {g : Bool} (h : ¬ (0 < k ∧ k + 1 < L ∧ x = ByteArray.empty ∧ gx = false)) :
    ffGo L k ((x, gx) :: t) out n g = ffGo L (k + 1) t ((if 0 < k ∧ n = 0 ∧ g = false then out ++ b32 else out) ++ brks n ++ x) 0 gx := by
  rw [ffGo, if_neg h]
theorem drop_pc {ps : List Pc} {k : Nat} {p : Pc} (h : ps[k]? = some p) : ps.drop k = p :: ps.drop (k + 1) := by
  have hl : k < ps.length := by
    rcases Nat.lt_or_ge k ps.length with h' | h'
    · exact h'
    · rw [List.getElem?_eq_none h'] at h; cases h
  rw [List.drop_eq_getElem_cons hl]
  congr 1
  rw [List.getElem?_eq_getElem hl] at h
  simpa using h
theorem empty_list : (ByteArray.empty.toList == ([] : List UInt8)) = true := by rw [ByteArray.toList_eq]; rfl
theorem nonempty_list {t : ByteArray} (h : t ≠ ByteArray.empty) : (t.toList == []) = false := by
  rw [beq_eq_false_iff_ne]
  intro e
  apply h
  rw [ByteArray.toList_eq] at e
  apply ba_ext'
  apply Array.ext'
  rw [e]; rfl
end Go.Proofs.Ytfpkcfedkjjjbac
