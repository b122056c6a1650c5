/- Plain facts on lines and gaps: what both sides answer, with no program in it. -/
import Derived.WalkKit
import Derived.ProofKit
import Derived.Lib.LastIndexByte
import Derived.Lib.Bytealg
namespace Go.Proofs.YtmbbmibkjnlkkaaDoor
open Go.ChangeShapes Go.WideShapes Go.ChangeAt Go.RowKit
/-- How long a text may be here. -/
def mx : Nat := 4611686018427387903
/-- The byte at a place. -/
def bt (s : ByteArray) (i : Nat) : Nat := (s.data[i]!).toNat
theorem bt_get (s : ByteArray) (i : Nat) (h : i < s.size) : (s[i]'h).toNat = bt s i := by
  unfold bt
  rw [getElem!_pos s.data i (by simpa using h)]; rfl
theorem bt_lt (s : ByteArray) (i : Nat) : bt s i < 256 := (s.data[i]!).toNat_lt
def cl (n : Nat) (p : Int) : Nat := min p.toNat n
theorem cl_le (n : Nat) (p : Int) : cl n p ≤ n := by unfold cl; omega
theorem cl_nat (n k : Nat) (h : k ≤ n) : cl n (k : Int) = k := by unfold cl; omega
/-- From a place on, over bytes that pass, with fuel. -/
def fw (P : Nat → Bool) (s : ByteArray) : Nat → Nat → Nat
  | 0, k => k
  | f + 1, k => if k < s.size ∧ P (bt s k) = true then fw P s f (k + 1) else k
def fwd (P : Nat → Bool) (s : ByteArray) (k : Nat) : Nat := fw P s (s.size - k) k
theorem fwd_step {P : Nat → Bool} {s : ByteArray} {k : Nat} (h : k < s.size) (hp : P (bt s k) = true) : fwd P s k = fwd P s (k + 1) := by
  unfold fwd
  rw [show s.size - k = (s.size - (k + 1)) + 1 by omega]
  show (if k < s.size ∧ P (bt s k) = true then _ else k) = _
  rw [if_pos ⟨h, hp⟩]
theorem fwd_stop {P : Nat → Bool} {s : ByteArray} {k : Nat} (h : P (bt s k) = false) : fwd P s k = k := by
  unfold fwd
  cases s.size - k with
  | zero => rfl
  | succ f => show (if k < s.size ∧ P (bt s k) = true then _ else k) = _; rw [if_neg (by rw [h]; simp)]
theorem fwd_end {P : Nat → Bool} {s : ByteArray} {k : Nat} (h : s.size ≤ k) : fwd P s k = k := by
  unfold fwd; rw [show s.size - k = 0 by omega]; rfl
theorem fwd_ind {P : Nat → Bool} {s : ByteArray} {M : Nat → Prop} (hend : ∀ k, s.size ≤ k → M k) (hstop : ∀ k, k < s.size → P (bt s k) = false → M k) (hstep : ∀ k, k < s.size → P (bt s k) = true → M (k + 1) → M k) : ∀ k, M k := by
  intro k
  generalize hf : s.size - k = f
  induction f generalizing k with
  | zero => exact hend k (by omega)
  | succ f ih =>
    cases hp : P (bt s k) with
    | false => exact hstop k (by omega) hp
    | true => exact hstep k (by omega) hp (ih (k + 1) (by omega))
theorem fwd_ge (P : Nat → Bool) (s : ByteArray) (k : Nat) : k ≤ fwd P s k := by
  revert k
  refine fwd_ind (P := P) (s := s) ?_ ?_ ?_
  · intro k h; rw [fwd_end h]; omega
  · intro k _ h; rw [fwd_stop h]; omega
  · intro k h hp ih; rw [fwd_step h hp]; omega
theorem fwd_le (P : Nat → Bool) (s : ByteArray) (k : Nat) (hk : k ≤ s.size) : fwd P s k ≤ s.size := by
  revert hk; revert k
  refine fwd_ind (P := P) (s := s) ?_ ?_ ?_
  · intro k h hk; rw [fwd_end h]; omega
  · intro k _ h hk; rw [fwd_stop h]; omega
  · intro k h hp ih hk; rw [fwd_step h hp]; exact ih (by omega)
theorem fwd_at (P : Nat → Bool) (s : ByteArray) (k : Nat) : fwd P s k < s.size → P (bt s (fwd P s k)) = false := by
  revert k
  refine fwd_ind (P := P) (s := s) ?_ ?_ ?_
  · intro k h hk; rw [fwd_end h] at hk; omega
  · intro k _ h hk; rw [fwd_stop h]; exact h
  · intro k h hp ih hk; rw [fwd_step h hp] at hk ⊢; exact ih hk
theorem fwd_in (P : Nat → Bool) (s : ByteArray) (k : Nat) : ∀ j, k ≤ j → j < fwd P s k → P (bt s j) = true := by
  revert k
  refine fwd_ind (P := P) (s := s) ?_ ?_ ?_
  · intro k h j h1 h2; rw [fwd_end h] at h2; omega
  · intro k _ h j h1 h2; rw [fwd_stop h] at h2; omega
  · intro k h hp ih j h1 h2
    rw [fwd_step h hp] at h2
    by_cases e : j = k
    · rw [e]; exact hp
    · exact ih j (by omega) h2
theorem fwd_skip {P : Nat → Bool} {s : ByteArray} {k : Nat} (j : Nat) (hkj : k ≤ j) (hj : j ≤ s.size) (h : ∀ i, k ≤ i → i < j → P (bt s i) = true) : fwd P s k = fwd P s j := by
  generalize hd : j - k = d
  induction d generalizing k with
  | zero => rw [show k = j by omega]
  | succ d ih => rw [fwd_step (by omega) (h k (by omega) (by omega))]; exact ih (by omega) (fun i h1 h2 => h i (by omega) h2) (by omega)
/-- The kinds of bytes. -/
def pW (c : Nat) : Bool := c == 32 || c == 9
def pG (c : Nat) : Bool := c == 32 || c == 9 || c == 10
def pN (c : Nat) : Bool := c != 10
def pB (c : Nat) : Bool := c == 32
/-- The beginning of a line. -/
def lnb (s : ByteArray) : Nat → Nat
  | 0 => 0
  | k + 1 => if bt s k = 10 then k + 1 else lnb s k
theorem lnb_le (s : ByteArray) (k : Nat) : lnb s k ≤ k := by
  induction k with
  | zero => exact Nat.le_refl _
  | succ k ih => unfold lnb; split <;> omega
theorem lnb_in (s : ByteArray) (k : Nat) : ∀ j, lnb s k ≤ j → j < k → bt s j ≠ 10 := by
  induction k with
  | zero => intro j _ h; omega
  | succ k ih =>
    intro j h1 h2
    unfold lnb at h1
    split at h1
    · omega
    · rename_i hk
      by_cases e : j = k
      · rw [e]; exact hk
      · exact ih j h1 (by omega)
/-- Whether a place is the beginning of a line. -/
def beg (s : ByteArray) (k : Nat) : Bool := k == 0 || bt s (k - 1) == 10
theorem lnb_beg (s : ByteArray) (k : Nat) : (lnb s k = k) ↔ beg s k = true := by
  cases k with
  | zero => simp [lnb, beg]
  | succ k =>
    have := lnb_le s k
    unfold lnb beg
    by_cases h : bt s k = 10
    · simp [h]
    · simp [h]; omega
theorem beg_lnb (s : ByteArray) (k : Nat) : beg s (lnb s k) = true := by
  induction k with
  | zero => rfl
  | succ k ih =>
    unfold lnb
    split
    · rename_i h; simp [beg, h]
    · exact ih
/-- What is asked of a text of signs. -/
theorem indexByte_pos (l : List UInt8) (c : UInt8) : decide (0 ≤ Lib.indexByte l c) = l.contains c := by
  induction l with
  | nil => rfl
  | cons b l ih =>
    have hge := Lib.indexByte_ge l c
    rw [List.contains_cons, ← ih]
    rw [show Lib.indexByte (b :: l) c = if b == c then 0 else if Lib.indexByte l c == -1 then -1 else Lib.indexByte l c + 1 from rfl]
    by_cases hb : b = c
    · subst hb; simp
    · have h1 : (b == c) = false := by simpa using hb
      have h2 : (c == b) = false := by simpa using fun h : c = b => hb h.symm
      rw [h1, h2, if_neg (by simp), Bool.false_or]
      by_cases hi : Lib.indexByte l c = -1
      · rw [hi]; rfl
      · rw [if_neg (by simpa using hi)]
        have e1 : (0 ≤ Lib.indexByte l c + 1) = (0 ≤ Lib.indexByte l c) := propext (by omega)
        simp only [e1]
theorem lastIdx_lnb (s : ByteArray) (q k : Nat) (hk : k ≤ q) (hq : q ≤ s.size) : Lib.lastIdx (s.extract 0 q) 10 k + 1 = (lnb s k : Int) := by
  have hz : (s.extract 0 q).size = q := by rw [ByteArray.size_extract]; omega
  have hb : ∀ i, i < q → ((s.extract 0 q).data[i]!).toNat = bt s i := by
    intro i hi
    unfold bt
    rw [getElem!_pos (s.extract 0 q).data i (by show i < (s.extract 0 q).size; omega), getElem!_pos s.data i (by show i < s.size; omega)]
    simp [ByteArray.data_extract]
  induction k with
  | zero => rfl
  | succ k ih =>
    unfold lnb
    by_cases h : bt s k = 10
    · rw [if_pos h, Lib.lastIdx_hit _ _ _ (by rw [hb k (by omega), h]; rfl)]; omega
    · rw [if_neg h, Lib.lastIdx_miss _ _ _ (by rw [hb k (by omega)]; omega)]; exact ih (by omega)
/-- Whether there is a gap. -/
def gapP (s : ByteArray) (k : Nat) : Bool := decide (s.size ≤ k) || pG (bt s k)
/-- The end of the line from a place on. -/
def endL (s : ByteArray) (k : Nat) : Nat := fwd pN s k
def wh (s : ByteArray) (k : Nat) : Nat := fwd pW s k
def brk (s : ByteArray) (k : Nat) : Bool := decide (s.size ≤ k) || bt s k == 10
theorem brk_end {s : ByteArray} {k : Nat} (hk : k ≤ s.size) : brk s k = decide (k = endL s k) := by
  unfold brk endL
  by_cases h : k < s.size
  · by_cases h1 : bt s k = 10
    · rw [fwd_stop (by simp [pN, h1])]; simp [h1]
    · have hp : pN (bt s k) = true := by simp [pN, h1]
      have := fwd_ge pN s (k + 1)
      rw [fwd_step h hp]
      have e : ¬ k = fwd pN s (k + 1) := by omega
      simp [h1, e]; omega
  · rw [fwd_end (by omega)]; simp; omega
/-- Rest. -/
def restP (s : ByteArray) (k q : Nat) : Bool := brk s q || (bt s q == 35 && (decide (k < q) || beg s k))
def rest (s : ByteArray) (k : Nat) : Nat × Bool := if restP s k (wh s k) = true then (endL s (wh s k), true) else (wh s k, false)
/-- Gap. -/
def rem (s : ByteArray) (k : Nat) : Bool := bt s k == 35 && (k == 0 || pG (bt s (k - 1)))
def gp (s : ByteArray) : Nat → Nat → Nat
  | 0, k => k
  | f + 1, k => if k < s.size then (if pG (bt s k) = true then gp s f (k + 1) else if rem s k = true then gp s f (endL s k) else k) else k
theorem rem_end {s : ByteArray} {k : Nat} (h : k < s.size) (hr : rem s k = true) : k < endL s k ∧ endL s k ≤ s.size := by
  have h35 : bt s k = 35 := by
    simp only [rem, Bool.and_eq_true, beq_iff_eq] at hr; exact hr.1
  have e : endL s k = fwd pN s (k + 1) := fwd_step h (by rw [h35]; rfl)
  have := fwd_ge pN s (k + 1)
  have := fwd_le pN s (k + 1) (by omega)
  omega
theorem gp_end (s : ByteArray) (f k : Nat) (h : s.size ≤ k) : gp s f k = k := by
  cases f with
  | zero => rfl
  | succ f => unfold gp; rw [if_neg (by omega)]
theorem gp_fuel (s : ByteArray) : ∀ (f g k : Nat), s.size - k ≤ f → s.size - k ≤ g → gp s f k = gp s g k := by
  intro f
  induction f with
  | zero => intro g k h _; rw [gp_end s 0 k (by omega), gp_end s g k (by omega)]
  | succ f ih =>
    intro g k h h'
    by_cases hk : k < s.size
    · obtain ⟨n, rfl⟩ : ∃ n, g = n + 1 := ⟨g - 1, by omega⟩
      unfold gp
      rw [if_pos hk, if_pos hk]
      split
      · exact ih n (k + 1) (by omega) (by omega)
      · split
        · rename_i hr
          have := rem_end hk hr
          exact ih n (endL s k) (by omega) (by omega)
        · rfl
    · rw [gp_end s _ k (by omega), gp_end s g k (by omega)]
def gap (s : ByteArray) (k : Nat) : Nat := gp s (s.size - k) k
theorem gap_end {s : ByteArray} {k : Nat} (h : s.size ≤ k) : gap s k = k := gp_end s _ k h
theorem gap_g {s : ByteArray} {k : Nat} (h : k < s.size) (hg : pG (bt s k) = true) : gap s k = gap s (k + 1) := by
  unfold gap
  rw [show s.size - k = (s.size - (k + 1)) + 1 by omega]
  conv => lhs; unfold gp
  rw [if_pos h, if_pos hg]
theorem gap_r {s : ByteArray} {k : Nat} (h : k < s.size) (hg : pG (bt s k) = false) (hr : rem s k = true) : gap s k = gap s (endL s k) := by
  have := rem_end h hr
  unfold gap
  rw [show s.size - k = (s.size - (k + 1)) + 1 by omega]
  conv => lhs; unfold gp
  rw [if_pos h, if_neg (by rw [hg]; simp), if_pos hr]
  exact gp_fuel s _ _ _ (by omega) (by omega)
theorem gap_no {s : ByteArray} {k : Nat} (hg : pG (bt s k) = false) (hr : rem s k = false) : gap s k = k := by
  by_cases h : k < s.size
  · unfold gap
    rw [show s.size - k = (s.size - (k + 1)) + 1 by omega]
    conv => lhs; unfold gp
    rw [if_pos h, if_neg (by rw [hg]; simp), if_neg (by rw [hr]; simp)]
  · exact gap_end (by omega)
theorem pW_pG {c : Nat} (h : pW c = true) : pG c = true := by unfold pG; unfold pW at h; rw [h]; rfl
theorem pG_or (c : Nat) : pG c = (pW c || c == 10) := rfl
theorem gap_skip (s : ByteArray) (k j : Nat) (hkj : k ≤ j) (hj : j ≤ s.size) (h : ∀ i, k ≤ i → i < j → pG (bt s i) = true) : gap s k = gap s j := by
  generalize hd : j - k = d
  induction d generalizing k with
  | zero => rw [show k = j by omega]
  | succ d ih => rw [gap_g (by omega) (h k (by omega) (by omega))]; exact ih (k + 1) (by omega) (fun i h1 h2 => h i (by omega) h2) (by omega)
theorem gap_wh (s : ByteArray) (k : Nat) (hk : k ≤ s.size) : gap s k = gap s (wh s k) :=
  gap_skip s k _ (fwd_ge _ _ _) (fwd_le _ _ _ hk) fun i h1 h2 => pW_pG (fwd_in _ _ _ i h1 h2)
theorem rem_spec (s : ByteArray) (q : Nat) (h : bt s q = 35) : rem s q = (beg s q || pW (bt s (q - 1))) := by
  unfold rem beg
  rw [h, pG_or]
  cases (q == 0) <;> cases (pW (bt s (q - 1))) <;> cases (bt s (q - 1) == 10) <;> rfl
theorem gap_ge (s : ByteArray) (k : Nat) (hk : k ≤ s.size) : k ≤ gap s k ∧ gap s k ≤ s.size := by
  suffices h : ∀ f k, k ≤ s.size → k ≤ gp s f k ∧ gp s f k ≤ s.size from h _ k hk
  intro f
  induction f with
  | zero => intro k h; exact ⟨Nat.le_refl _, h⟩
  | succ f ih =>
    intro k h
    unfold gp
    split
    · rename_i hlt
      split
      · have := ih (k + 1) (by omega); omega
      · split
        · rename_i hr
          have := rem_end hlt hr
          have := ih (endL s k) (by omega); omega
        · omega
    · omega
/-- A mark. -/
def is3 (s : ByteArray) (p c : Nat) : Bool := bt s p == c && (bt s (p + 1) == c && bt s (p + 2) == c)
def markN (s : ByteArray) (p : Nat) : Nat :=
  if beg s p = true ∧ p + 3 ≤ s.size ∧ gapP s (p + 3) = true then (if is3 s p 45 = true then 1 else if is3 s p 46 = true then 2 else 0) else 0
theorem ba_ext {a b : ByteArray} (h : a.data.toList = b.data.toList) : a = b := by
  cases a; cases b; simp at h; simp [h]
theorem ext3 (s : ByteArray) (p : Nat) (h : p + 3 ≤ s.size) : (s.extract p (p + 3)).data.toList = [s.data[p]!, s.data[p + 1]!, s.data[p + 2]!] := by
  have hd : ∀ i, i < s.size → i < s.data.size := fun i h => h
  rw [ByteArray.data_extract, Array.toList_extract, List.extract_eq_take_drop, show p + 3 - p = 3 by omega]
  rw [getElem!_pos s.data p (hd _ (by omega)), getElem!_pos s.data (p + 1) (hd _ (by omega)), getElem!_pos s.data (p + 2) (hd _ (by omega))]
  rw [List.drop_eq_getElem_cons (by have := hd p (by omega); simpa using this), List.take_succ_cons, List.drop_eq_getElem_cons (by have := hd (p + 1) (by omega); simpa using this), List.take_succ_cons, List.drop_eq_getElem_cons (by have := hd (p + 2) (by omega); simpa using this), List.take_succ_cons, List.take_zero]
  rfl
theorem is3_ext (s : ByteArray) (p : Nat) (h : p + 3 ≤ s.size) (c : UInt8) : is3 s p c.toNat = decide ((s.extract p (p + 3)).data.toList = [c, c, c]) := by
  rw [ext3 s p h]
  have e : ∀ i, (bt s i == c.toNat) = decide (s.data[i]! = c) := by
    intro i
    unfold bt
    rw [Bool.eq_iff_iff]
    simp [UInt8.toNat_inj]
  unfold is3
  rw [e, e, e, Bool.eq_iff_iff]
  simp
end Go.Proofs.YtmbbmibkjnlkkaaDoor
