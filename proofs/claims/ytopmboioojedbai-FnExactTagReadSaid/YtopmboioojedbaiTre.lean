/- What spec and impl say a tag stands for is the same, where impl's book tells no empty prefix. -/
import Derived.Test.YtopmboioojedbaiStr
import Derived.Test.YtopmboioojedbaiTr
namespace Go.Proofs.Ytopmboioojedbai
open Go.ChangeShapes Go.WideShapes Go.ChangeAt Go.RowKit Go.Shelf Go.Maps
theorem lx_lxS (s : ByteArray) (k : Nat) : lx s k = lxS s k := by
  induction k with
  | zero => rfl
  | succ k ih => unfold lx lxS; rw [ih]
theorem ext1 (s : ByteArray) (p : Nat) (h : p + 1 ≤ s.size) : (s.extract p (p + 1)).data.toList = [s.data[p]!] := by
  have hd : ∀ i, i < s.size → i < s.data.size := fun i h => h
  rw [ByteArray.data_extract, Array.toList_extract, List.extract_eq_take_drop, show p + 1 - p = 1 by omega]
  rw [getElem!_pos s.data p (hd _ (by omega))]
  rw [List.drop_eq_getElem_cons (by have := hd p (by omega); simpa using this), List.take_succ_cons, List.take_zero]
  rfl
theorem pre1 (s : ByteArray) : pre s b1 = (decide (0 < s.size) && bt s 0 == 33) := by
  have h1 : b1.size = 1 := rfl
  unfold pre
  rw [h1]
  by_cases h : 1 ≤ s.size
  · have e := bt_u8 s 0 33
    rw [show (33 : UInt8).toNat = 33 from rfl] at e
    rw [decide_eq_true (by omega : 0 < s.size), Bool.true_and, e, Bool.eq_iff_iff, decide_eq_true_eq, decide_eq_true_eq]
    have hx := ext1 s 0 h
    constructor
    · intro h'
      rw [h'.2] at hx
      have : [(33 : UInt8)] = [s.data[0]!] := hx
      injection this with this
      exact this.symm
    · intro h'
      refine ⟨h, ba_ext ?_⟩
      rw [hx, h']; rfl
  · rw [decide_eq_false (by omega : ¬ 0 < s.size), Bool.false_and, decide_eq_false_iff_not]
    intro h'; omega
theorem suf1 (s : ByteArray) (h : 0 < s.size) : suf s bZ = (bt s (s.size - 1) == 62) := by
  have h1 : bZ.size = 1 := rfl
  unfold suf
  rw [h1]
  have e := bt_u8 s (s.size - 1) 62
  rw [show (62 : UInt8).toNat = 62 from rfl] at e
  rw [e, Bool.eq_iff_iff, decide_eq_true_eq, decide_eq_true_eq]
  have hx := ext1 s (s.size - 1) (by omega)
  rw [show s.size - 1 + 1 = s.size by omega] at hx
  constructor
  · intro h'
    rw [h'.2] at hx
    have : [(62 : UInt8)] = [s.data[s.size - 1]!] := hx
    injection this with this
    exact this.symm
  · intro h'
    refine ⟨by omega, ba_ext ?_⟩
    rw [hx, h']; rfl
theorem pre_bA (s : ByteArray) (h : 3 < s.size) (h33 : bt s 0 = 33) : pre s bA = (bt s 1 == 60) := by
  have := pre_lt s 0 (by omega) h33
  rw [show s.extract 0 s.size = s from by apply ba_ext; simp] at this
  unfold lt at this
  rw [decide_eq_true (by omega : 0 + 2 ≤ s.size), Bool.true_and] at this
  exact this
theorem mid_eq (s : ByteArray) (h33 : bt s 0 = 33) : midB s = midS s := by
  unfold midB midS
  by_cases h : 3 < s.size
  · rw [pre_bA s h h33, suf1 s (by omega)]
  · rw [decide_eq_false h]; rfl
theorem mid_no (s : ByteArray) (h33 : bt s 0 ≠ 33) : midB s = false := by
  unfold midB
  cases hp : pre s bA with
  | false => simp
  | true =>
    exfalso
    unfold pre at hp
    rw [decide_eq_true_eq] at hp
    obtain ⟨h1, h2⟩ := hp
    have hz : 2 ≤ s.size := h1
    have hx := ext2 s 0 hz
    have h2' : s.extract 0 2 = bA := h2
    rw [show (0 : Nat) + 2 = 2 from rfl, h2'] at hx
    have : [(33 : UInt8), 60] = [s.data[0]!, s.data[0 + 1]!] := hx
    injection this with h3 _
    apply h33
    unfold bt
    rw [← h3]; rfl
theorem trS_trO (hs : List Hn) (s : ByteArray) : trS (pfx hs) s = trO (ne0 (look hs)) s := by
  unfold trS trO
  by_cases h0 : s.size = 0
  · have h1 : s ≠ b1 := fun e => by rw [e] at h0; cases h0
    have hm : midB s = false := by unfold midB; rw [decide_eq_false (by omega)]; rfl
    have hp : pre s b1 = false := by rw [pre1, decide_eq_false (by omega)]; rfl
    rw [if_pos h0, if_neg h1, if_neg (by rw [hm]; simp), if_pos hp]
  rw [if_neg h0]
  by_cases h33 : bt s 0 = 33
  · rw [if_neg (by simpa using h33), mid_eq s h33]
    by_cases e1 : s = b1
    · rw [if_pos e1, if_pos e1]
    rw [if_neg e1, if_neg e1]
    by_cases hm : midS s = true
    · rw [if_pos hm, if_pos hm]
    have hp : ¬ pre s b1 = false := by rw [pre1, h33, decide_eq_true (by omega)]; simp
    rw [if_neg hm, if_neg hm, if_neg hp, lx_lxS]
    by_cases hc : lxS s s.size = s.size
    · rw [if_pos hc, if_pos hc]
    rw [if_neg hc, if_neg hc]
    by_cases hn : nmB (s.extract 0 (lxS s s.size)) = false
    · rw [if_pos hn, if_pos hn]
    rw [if_neg hn, if_neg hn]
    unfold ne0 pfx
    by_cases hp : (look hs (s.extract 0 (lxS s s.size))).getD ByteArray.empty = ByteArray.empty
    · rw [if_pos hp, if_pos hp]; rfl
    · rw [if_neg hp, if_neg hp]
      cases hl : look hs (s.extract 0 (lxS s s.size)) with
      | none => rw [hl] at hp; exact absurd rfl hp
      | some p => rfl
  · have h1 : s ≠ b1 := fun e => by rw [e] at h33; exact h33 rfl
    have hp : pre s b1 = false := by rw [pre1, beq_eq_false_iff_ne.2 h33]; simp
    rw [if_pos h33, if_neg h1, if_neg (by rw [mid_no s h33]; simp), if_pos hp]
end Go.Proofs.Ytopmboioojedbai
