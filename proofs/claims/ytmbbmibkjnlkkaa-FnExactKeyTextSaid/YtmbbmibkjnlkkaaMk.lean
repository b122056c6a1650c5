/- spec.MarkAt and impl.MarkAt both answer what 'markN' says. -/
import Derived.Test.YtmbbmibkjnlkkaaBeg
import Derived.Deep.QuietTactic
import Derived.BigQuiet
import Derived.LoopN
namespace Go.Proofs.Ytmbbmibkjnlkkaa
open Go.ChangeShapes Go.WideShapes Go.ChangeAt Go.RowKit
theorem below_drewN (w : World) (n : Nat) : Below w.heap.size w (w.drewN n) := by
  induction n with
  | zero => exact Below.refl _ _
  | succ n ih => exact ih.drew
def pre (s t : ByteArray) : Bool := decide (t.size ≤ s.size ∧ s.extract 0 t.size = t)
theorem toList_beq (a b : ByteArray) : (a.toList == b.toList) = decide (a = b) := by
  rw [Bool.eq_iff_iff]; simp only [beq_iff_eq, decide_eq_true_eq]
  constructor
  · intro h
    apply ba_ext
    rw [← ByteArray.toList_eq, ← ByteArray.toList_eq, h]
  · intro h; rw [h]
theorem pre3 (s : ByteArray) (p : Nat) (hp : p ≤ s.size) (c : UInt8) : pre (s.extract p s.size) ⟨#[c, c, c]⟩ = (decide (p + 3 ≤ s.size) && is3 s p c.toNat) := by
  have hz : (s.extract p s.size).size = s.size - p := by rw [ByteArray.size_extract]; omega
  have h3 : (ByteArray.mk #[c, c, c]).size = 3 := rfl
  unfold pre
  rw [hz, h3]
  by_cases h : p + 3 ≤ s.size
  · rw [is3_ext s p h, decide_eq_true h, Bool.true_and, Bool.eq_iff_iff, decide_eq_true_eq, decide_eq_true_eq]
    have e : (s.extract p s.size).extract 0 3 = s.extract p (p + 3) := by
      apply ba_ext
      simp only [ByteArray.data_extract, Array.toList_extract, List.extract_eq_take_drop, List.drop_zero]
      rw [List.take_take]
      congr 1
      omega
    rw [e]
    constructor
    · intro h'; rw [h'.2]
    · intro h'; exact ⟨by omega, ba_ext h'⟩
  · rw [decide_eq_false h, Bool.false_and, decide_eq_false_iff_not]
    intro h'; omega
theorem is3_not (s : ByteArray) (p : Nat) (h : is3 s p 45 = true) : is3 s p 46 = false := by
  unfold is3 at *
  simp only [Bool.and_eq_true, beq_iff_eq] at h
  rw [h.1]; rfl
theorem isGap_heap (s : ByteArray) (k A : Nat) (h : k < s.size) (w : World) (b : Bool) (hA : w.heap[A]? = some (.cells #[.string ⟨#[32, 9, 10]⟩] 9 (0, 0))) (hb : pG (bt s k) = b) :
    Calls Try.prog 72 #[.int .u8 ((s[k]'h).toNat : Int), .pointer (some ⟨A, 0, none⟩)] w fun e w' => e = .returned (.bool b) ∧ Below w.heap.size w w' := by
  subst hb
  have := amongC_any ⟨#[32, 9, 10]⟩ pG A w hA pG_signs w (bt s k) (bt_lt s k) (Below.refl _ _)
  rw [← bt_get s k h] at this ⊢
  exact this
/-- What MarkAt answers, by the two beginnings. -/
def m3 (s : ByteArray) (p : Nat) (c : UInt8) : Bool := pre (s.extract p s.size) ⟨#[c, c, c]⟩
theorem mark_0 {s : ByteArray} {p : Nat} (h : beg s p = false) : markN s p = 0 := by
  unfold markN; rw [if_neg (by rw [h]; simp)]
theorem mark_short {s : ByteArray} {p : Nat} (h : s.size < p + 3) : markN s p = 0 := by
  unfold markN; rw [if_neg (by omega)]
theorem mark_nogap {s : ByteArray} {p : Nat} (h : gapP s (p + 3) = false) : markN s p = 0 := by
  unfold markN; rw [if_neg (by rw [h]; simp)]
theorem mark_1 {s : ByteArray} {p : Nat} (hb : beg s p = true) (h : p + 3 ≤ s.size) (hg : gapP s (p + 3) = true) (h1 : is3 s p 45 = true) : markN s p = 1 := by
  unfold markN; rw [if_pos ⟨hb, h, hg⟩, if_pos h1]
theorem mark_2 {s : ByteArray} {p : Nat} (hb : beg s p = true) (h : p + 3 ≤ s.size) (hg : gapP s (p + 3) = true) (h1 : is3 s p 45 = false) (h2 : is3 s p 46 = true) : markN s p = 2 := by
  unfold markN; rw [if_pos ⟨hb, h, hg⟩, if_neg (by rw [h1]; simp), if_pos h2]
theorem mark_no {s : ByteArray} {p : Nat} (h1 : is3 s p 45 = false) (h2 : is3 s p 46 = false) : markN s p = 0 := by
  unfold markN; rw [h1, h2]; simp
end Go.Proofs.Ytmbbmibkjnlkkaa
