/- Plain facts on names, tags and handles: what both sides answer, with no program in it. -/
import Derived.Test.YtjpcmmfmdoglkalGreatDoorLn
namespace Go.Proofs.YtjpcmmfmdoglkalGreatDoor
open Go.ChangeShapes Go.WideShapes Go.ChangeAt Go.RowKit
/-- Flow signs, ends of a stretch, ends of a tag in angles. -/
def pF (c : Nat) : Bool := c == 44 || c == 91 || c == 93 || c == 123 || c == 125
def pE (c : Nat) : Bool := pG c || pF c
def pX (c : Nat) : Bool := !pE c
def pA (c : Nat) : Bool := pG c || c == 62
def pC (c : Nat) : Bool := !pA c
/-- A stretch from a place on; a tag in angles up to a gap or its end. -/
def str (s : ByteArray) (k : Nat) : Nat := fwd pX s k
def clo (s : ByteArray) (k : Nat) : Nat := fwd pC s k
/-- A name. -/
def p38 (c : Nat) : Bool := c == 38 || c == 42
def sgn (P : Nat → Bool) (s : ByteArray) (k : Nat) : Bool := decide (k < s.size) && P (bt s k)
def nameB (s : ByteArray) (k : Nat) : Bool := sgn p38 s k && (decide (k + 1 < str s (k + 1)) && decide (str s (k + 1) ≤ k + 61))
def nameT (s : ByteArray) (k : Nat) : ByteArray := if nameB s k = true then s.extract (k + 1) (str s (k + 1)) else ByteArray.empty
def nameE (s : ByteArray) (k : Nat) : Nat := if nameB s k = true then str s (k + 1) else 0
theorem name_yes {s : ByteArray} {k q : Nat} (h0 : sgn p38 s k = true) (hq : str s (k + 1) = q) (h1 : k + 1 < q) (h2 : q ≤ k + 61) : nameT s k = s.extract (k + 1) q ∧ nameE s k = q ∧ nameB s k = true := by
  have h : nameB s k = true := by unfold nameB; rw [h0, hq]; simp [h1, h2]
  unfold nameT nameE
  rw [if_pos h, if_pos h, hq]; exact ⟨rfl, rfl, h⟩
theorem name_no {s : ByteArray} {k : Nat} (h : nameB s k = false) : nameT s k = ByteArray.empty ∧ nameE s k = 0 ∧ nameB s k = false := by
  unfold nameT nameE
  rw [if_neg (by rw [h]; simp), if_neg (by rw [h]; simp)]; exact ⟨rfl, rfl, h⟩
theorem name_no0 {s : ByteArray} {k : Nat} (h0 : sgn p38 s k = false) : nameT s k = ByteArray.empty ∧ nameE s k = 0 ∧ nameB s k = false :=
  name_no (by unfold nameB; rw [h0]; rfl)
theorem name_no1 {s : ByteArray} {k q : Nat} (hq : str s (k + 1) = q) (h1 : q = k + 1) : nameT s k = ByteArray.empty ∧ nameE s k = 0 ∧ nameB s k = false :=
  name_no (by unfold nameB; rw [hq, h1]; simp)
theorem name_no2 {s : ByteArray} {k q : Nat} (hq : str s (k + 1) = q) (h2 : k + 61 < q) : nameT s k = ByteArray.empty ∧ nameE s k = 0 ∧ nameB s k = false :=
  name_no (by unfold nameB; rw [hq]; simp; omega)
theorem str_ge (s : ByteArray) (k : Nat) : k ≤ str s k := fwd_ge _ _ _
theorem str_le (s : ByteArray) (k : Nat) (hk : k ≤ s.size) : str s k ≤ s.size := fwd_le _ _ _ hk
/-- A tag. -/
def p33 (c : Nat) : Bool := c == 33
def p62 (c : Nat) : Bool := c == 62
def lt (s : ByteArray) (k : Nat) : Bool := decide (k + 2 ≤ s.size) && bt s (k + 1) == 60
def ang (s : ByteArray) (k : Nat) : Bool := lt s k && (decide (k + 2 < clo s (k + 2)) && sgn p62 s (clo s (k + 2)))
def tagQ (s : ByteArray) (k : Nat) : Nat := if ang s k = true then clo s (k + 2) + 1 else str s k
def tagB (s : ByteArray) (k : Nat) : Bool := sgn p33 s k && decide (tagQ s k ≤ k + 60)
def tagT (s : ByteArray) (k : Nat) : ByteArray := if tagB s k = true then s.extract k (tagQ s k) else ByteArray.empty
def tagE (s : ByteArray) (k : Nat) : Nat := if tagB s k = true then tagQ s k else 0
theorem tag_yes {s : ByteArray} {k q : Nat} (h0 : sgn p33 s k = true) (hq : tagQ s k = q) (h2 : q ≤ k + 60) : tagT s k = s.extract k q ∧ tagE s k = q ∧ tagB s k = true := by
  have h : tagB s k = true := by unfold tagB; rw [h0, hq]; simp [h2]
  unfold tagT tagE
  rw [if_pos h, if_pos h, hq]; exact ⟨rfl, rfl, h⟩
theorem tag_no {s : ByteArray} {k : Nat} (h : tagB s k = false) : tagT s k = ByteArray.empty ∧ tagE s k = 0 ∧ tagB s k = false := by
  unfold tagT tagE
  rw [if_neg (by rw [h]; simp), if_neg (by rw [h]; simp)]; exact ⟨rfl, rfl, h⟩
theorem tag_no0 {s : ByteArray} {k : Nat} (h0 : sgn p33 s k = false) : tagT s k = ByteArray.empty ∧ tagE s k = 0 ∧ tagB s k = false :=
  tag_no (by unfold tagB; rw [h0]; rfl)
theorem tag_no2 {s : ByteArray} {k q : Nat} (hq : tagQ s k = q) (h2 : k + 60 < q) : tagT s k = ByteArray.empty ∧ tagE s k = 0 ∧ tagB s k = false :=
  tag_no (by unfold tagB; rw [hq]; simp; omega)
theorem clo_ge (s : ByteArray) (k : Nat) : k ≤ clo s k := fwd_ge _ _ _
theorem clo_le (s : ByteArray) (k : Nat) (hk : k ≤ s.size) : clo s k ≤ s.size := fwd_le _ _ _ hk
theorem lt_size {s : ByteArray} {k : Nat} (h : lt s k = true) : k + 2 ≤ s.size := by
  unfold lt at h; simp only [Bool.and_eq_true, decide_eq_true_eq] at h; exact h.1
theorem lt_bt {s : ByteArray} {k : Nat} (h : lt s k = true) : bt s (k + 1) = 60 := by
  unfold lt at h; simp only [Bool.and_eq_true, beq_iff_eq] at h; exact h.2
theorem sgn_lt {P : Nat → Bool} {s : ByteArray} {k : Nat} (h : sgn P s k = true) : k < s.size := by
  unfold sgn at h; simp only [Bool.and_eq_true, decide_eq_true_eq] at h; exact h.1
theorem sgn_bt {P : Nat → Bool} {s : ByteArray} {k : Nat} (h : sgn P s k = true) : P (bt s k) = true := by
  unfold sgn at h; simp only [Bool.and_eq_true] at h; exact h.2
theorem sgn_no {P : Nat → Bool} {s : ByteArray} {k : Nat} (h : sgn P s k = false) (hk : k < s.size) : P (bt s k) = false := by
  unfold sgn at h; rw [decide_eq_true hk, Bool.true_and] at h; exact h
theorem tagQ_yes {s : ByteArray} {k q : Nat} (h1 : lt s k = true) (hq : clo s (k + 2) = q) (h2 : k + 2 < q) (h3 : sgn p62 s q = true) : tagQ s k = q + 1 := by
  unfold tagQ ang; rw [hq, h1, h3, decide_eq_true h2, if_pos (by rfl)]
theorem tagQ_no1 {s : ByteArray} {k : Nat} (h1 : lt s k = false) : tagQ s k = str s k := by
  unfold tagQ ang; rw [h1, if_neg (by simp)]
theorem tagQ_no2 {s : ByteArray} {k q : Nat} (hq : clo s (k + 2) = q) (h2 : q = k + 2) : tagQ s k = str s k := by
  unfold tagQ ang; rw [hq, h2, if_neg (by simp)]
theorem tagQ_no3 {s : ByteArray} {k q : Nat} (hq : clo s (k + 2) = q) (h3 : sgn p62 s q = false) : tagQ s k = str s k := by
  unfold tagQ ang; rw [hq, h3, if_neg (by simp)]
theorem tagQ_le (s : ByteArray) (k : Nat) (hk : k ≤ s.size) : tagQ s k ≤ s.size := by
  unfold tagQ
  split
  · rename_i h
    unfold ang at h
    simp only [Bool.and_eq_true] at h
    have := sgn_lt h.2.2
    omega
  · exact str_le _ _ hk
theorem tagQ_ge (s : ByteArray) (k : Nat) : k ≤ tagQ s k := by
  unfold tagQ
  split
  · have := clo_ge s (k + 2); omega
  · exact str_ge _ _
theorem ext2 (s : ByteArray) (p : Nat) (h : p + 2 ≤ s.size) : (s.extract p (p + 2)).data.toList = [s.data[p]!, s.data[p + 1]!] := by
  have hd : ∀ i, i < s.size → i < s.data.size := fun i h => h
  rw [ByteArray.data_extract, Array.toList_extract, List.extract_eq_take_drop, show p + 2 - p = 2 by omega]
  rw [getElem!_pos s.data p (hd _ (by omega)), getElem!_pos s.data (p + 1) (hd _ (by omega))]
  rw [List.drop_eq_getElem_cons (by have := hd p (by omega); simpa using this), List.take_succ_cons, List.drop_eq_getElem_cons (by have := hd (p + 1) (by omega); simpa using this), List.take_succ_cons, List.take_zero]
  rfl
theorem bt_u8 (s : ByteArray) (i : Nat) (c : UInt8) : (bt s i == c.toNat) = decide (s.data[i]! = c) := by
  unfold bt
  rw [Bool.eq_iff_iff]
  simp [UInt8.toNat_inj]
/-- A beginning of a text. -/
def preT (s t : ByteArray) : Bool := decide (t.size ≤ s.size ∧ s.extract 0 t.size = t)
theorem ext_ext (s : ByteArray) (p m : Nat) (h : p + m ≤ s.size) : (s.extract p s.size).extract 0 m = s.extract p (p + m) := by
  apply ba_ext
  simp only [ByteArray.data_extract, Array.toList_extract, List.extract_eq_take_drop, List.drop_zero]
  rw [List.take_take]
  congr 1
  have : s.data.size = s.size := rfl
  omega
theorem pre_lt (s : ByteArray) (p : Nat) (hp : p ≤ s.size) (h33 : bt s p = 33) : preT (s.extract p s.size) ⟨#[33, 60]⟩ = lt s p := by
  have hz : (s.extract p s.size).size = s.size - p := by rw [ByteArray.size_extract]; omega
  have h2 : (ByteArray.mk #[33, 60]).size = 2 := rfl
  unfold preT lt
  rw [hz, h2]
  by_cases h : p + 2 ≤ s.size
  · rw [decide_eq_true h, Bool.true_and, ext_ext s p 2 h, Bool.eq_iff_iff, decide_eq_true_eq]
    have e0 : s.data[p]! = 33 := by
      have := bt_u8 s p 33
      rw [show (33 : UInt8).toNat = 33 from rfl, h33] at this
      simpa using this
    have e1 := bt_u8 s (p + 1) 60
    rw [show (60 : UInt8).toNat = 60 from rfl] at e1
    rw [e1, decide_eq_true_eq]
    constructor
    · intro h'
      have := ext2 s p h
      rw [h'.2] at this
      simp at this
      exact this.2.symm
    · intro h'
      refine ⟨by omega, ba_ext ?_⟩
      rw [ext2 s p h, e0, h']
  · rw [decide_eq_false h, Bool.false_and, decide_eq_false_iff_not]
    intro h'; omega
/-- Handles. -/
def pV (c : Nat) : Bool := decide (33 ≤ c) && decide (c ≤ 126)
def pH (c : Nat) : Bool := (decide (97 ≤ c) && decide (c ≤ 122)) || ((decide (65 ≤ c) && decide (c ≤ 90)) || ((decide (48 ≤ c) && decide (c ≤ 57)) || c == 45))
def allV (t : ByteArray) : Bool := decide (fwd pV t 0 = t.size)
def wordB (t : ByteArray) : Bool := decide (fwd pH t 0 = t.size)
def longN (t : ByteArray) : Bool := decide (2 < t.size) && (decide (t.size ≤ 60) && (bt t 0 == 33 && (bt t (t.size - 1) == 33 && decide (fwd pH t 1 = t.size - 1))))
def nmB (t : ByteArray) : Bool := decide (t = ⟨#[33]⟩) || (decide (t = ⟨#[33, 33]⟩) || longN t)
def hdB (n p : ByteArray) : Bool := nmB n && (decide (1 ≤ p.size) && (decide (p.size ≤ 60) && allV p))
theorem bt_ext (s : ByteArray) (a b i : Nat) (hb : b ≤ s.size) (hi : a + i < b) : bt (s.extract a b) i = bt s (a + i) := by
  have hz : (s.extract a b).size = b - a := by rw [ByteArray.size_extract]; omega
  unfold bt
  rw [getElem!_pos (s.extract a b).data i (by show i < (s.extract a b).size; omega), getElem!_pos s.data (a + i) (by show a + i < s.size; omega)]
  simp [ByteArray.data_extract]
theorem fwd_full (P : Nat → Bool) (s : ByteArray) (k e : Nat) (hk : k ≤ e) (he : e ≤ s.size) (hstop : e < s.size → P (bt s e) = false) : (fwd P s k = e) ↔ ∀ i, k ≤ i → i < e → P (bt s i) = true := by
  constructor
  · intro h i h1 h2
    exact fwd_in P s k i h1 (by omega)
  · intro h
    rw [fwd_skip e hk he h]
    by_cases hlt : e < s.size
    · exact fwd_stop (hstop hlt)
    · exact fwd_end (by omega)
theorem word_mid (t : ByteArray) (h2 : 2 < t.size) (hl : bt t (t.size - 1) = 33) : wordB (t.extract 1 (t.size - 1)) = decide (fwd pH t 1 = t.size - 1) := by
  have hz : (t.extract 1 (t.size - 1)).size = t.size - 2 := by rw [ByteArray.size_extract]; omega
  unfold wordB
  rw [Bool.eq_iff_iff, decide_eq_true_eq, decide_eq_true_eq, fwd_full pH t 1 (t.size - 1) (by omega) (by omega) (by intro _; rw [hl]; rfl), fwd_full pH _ 0 _ (by omega) (Nat.le_refl _) (by intro h; omega), hz]
  constructor
  · intro h i h1 h3
    have := h (i - 1) (by omega) (by omega)
    rw [bt_ext _ _ _ _ (by omega) (by omega), show 1 + (i - 1) = i by omega] at this
    exact this
  · intro h i _ h3
    rw [bt_ext _ _ _ _ (by omega) (by omega)]
    exact h _ (by omega) (by omega)
end Go.Proofs.YtjpcmmfmdoglkalGreatDoor
