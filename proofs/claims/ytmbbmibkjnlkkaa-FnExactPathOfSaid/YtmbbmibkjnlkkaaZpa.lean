/- Several texts in one: Tmt Ln Lat Ovr End Nat Beg Mk Smk Flw. -/
import Derived.Test.YtmbbmibkjnlkkaaProg
import Derived.WalkKit
import Derived.ProofKit
import Derived.WalkLawsBesides
import Derived.WalkSpells
import Derived.Below
import Derived.Deep.RegionWith
import Derived.Lib.LaidTab
import Derived.Lib.SmallJoins
import Derived.Lib.LastIndexByte
import Derived.Lib.Bytealg
import Derived.Shelf.Strings.LastIndex
import Derived.Shelf.Small.Strs
import Derived.Shelf.Abstract
import Derived.Deep.QuietTactic
import Derived.BigQuiet
import Derived.LoopN
/- The text that marks a place: the contract of the laws' markText. -/
namespace Go.Proofs.Ytmbbmibkjnlkkaa
open Go.ChangeShapes Go.WideShapes Go.ChangeAt Go.RowKit
theorem conv1m (w : World) (a : Int) : (convert 82 9 (.slice (some ⟨w.heap.size, 0, none⟩) 1 1)).run Try.prog (w.alloc (.cells #[.int .u8 a] 5)) = .ok (.string (strOfNums [a])) (w.alloc (.cells #[.int .u8 a] 5)) :=
  run_convert_bytes_arg _ 82 5 Try.underlying82 Try.underlying5 _ 0 1 1 [a] rfl (fun i hi => by
    match i, hi with
    | 0, _ => simp) 9 Try.underlying9
theorem ret_strm {a b : ByteArray} (h : a = b) : Ending.returned (.string a) = .returned (.string b) := by rw [h]
/-- The digits of a number, ahead of a text. -/
def mtGo : Nat → Nat → ByteArray → ByteArray
  | 0, _, o => o
  | f + 1, k, o => if k = 0 then o else mtGo f (k / 10) (strOfNums [((48 + k % 10 : Nat) : Int)] ++ o)
def mT (k : Nat) : ByteArray := ⟨#[109]⟩ ++ mtGo (k + 1) k ByteArray.empty
theorem mt_zero (f : Nat) (o : ByteArray) : mtGo f 0 o = o := by cases f <;> rfl
theorem mt_step (f k : Nat) (o : ByteArray) (h : k ≠ 0) : mtGo (f + 1) k o = mtGo f (k / 10) (strOfNums [((48 + k % 10 : Nat) : Int)] ++ o) := by rw [mtGo, if_neg h]
set_option maxHeartbeats 2000000 in
theorem markText_any (k : Nat) (w : World) (h0 : 0 < k) (h1 : k ≤ 100000000) :
    Calls Try.prog 28 #[.int .i64 (k : Int)] w fun e w' => e = .returned (.string (mT k)) ∧ Below w.heap.size w w' := by
  obtain ⟨X, hX⟩ : ∃ X, mtGo (k + 1) k ByteArray.empty = X := ⟨_, rfl⟩
  have HX : Hid (mtGo (k + 1) k ByteArray.empty = X) := hX
  have HM : Hid (mT k = ⟨#[109]⟩ ++ X) := by show mT k = _; unfold mT; rw [hX]
  have h0' : ¬ (k : Int) ≤ 0 := by omega
  clear hX
  go_enter Try.func28, Try.ntmps28
  go_wp2_with fail
  go_loopw [0, 3] (fun kv ov wr => ∃ (j f : Nat) (o : ByteArray), kv = .int .i64 (j : Int) ∧ ov = .string o ∧ j ≤ 100000000 ∧ o.size + j ≤ 100000000 ∧ Hid (j < f) ∧ Hid (mtGo f j o = X) ∧ Hid (Below w.heap.size w wr)) (fun kv _ _ => (intOf kv).toNat)
  case atStart => exact ⟨k, k + 1, ByteArray.empty, rfl, rfl, h1, by show 0 + k ≤ _; omega, by show k < k + 1; omega, HX, Below.refl _ _⟩
  case round =>
    obtain ⟨j, f, o, rfl, rfl, hj, ho, HF, HG, HB⟩ := hrel
    by_cases hz : j = 0
    · subst hz
      have HE : Hid (o = X) := by show o = X; rw [← HG.out, mt_zero]
      have ho' : o.size ≤ 100000000 := by omega
      clear ho
      go_wp2_with fail
      go_ret
      exact ⟨ret_strm (by rw [HM.out, HE.out]), HB.out⟩
    · have hz' : (0 : Int) < (j : Int) := by omega
      obtain ⟨f, rfl⟩ : ∃ f', f = f' + 1 := ⟨f - 1, by have := HF.out; omega⟩
      have HG2 : Hid (mtGo f (j / 10) (strOfNums [((48 + j % 10 : Nat) : Int)] ++ o) = X) := by show _ = X; rw [← HG.out, mt_step _ _ _ hz]
      have hc := conv1m wr
      have hsz : (strOfNums [((48 + j % 10 : Nat) : Int)] ++ o).size = o.size + 1 := by
        rw [ByteArray.size_append, strOfNums_size]; simp; omega
      have HSZ : Hid ((strOfNums [((48 + j % 10 : Nat) : Int)] ++ o).size = o.size + 1) := hsz
      have hadd : ∀ (w : World) (d : Int), (Op.stringOp .add (strOfNums [d]) o).run Try.prog w = .ok (.string (strOfNums [d] ++ o)) w := fun w d =>
        run_string_add_sum w _ _ (by rw [strOfNums_size]; simp; omega)
      have HF2 : Hid (j / 10 < f) := by have := HF.out; show j / 10 < f; omega
      have HBD : Hid (j / 10 ≤ 100000000 ∧ o.size + 1 + j / 10 ≤ 100000000) := by show _ ∧ _; omega
      clear hsz HG HF ho
      go_wp2_with fail
      go_roundw
      case rel => exact ⟨j / 10, f, strOfNums [((48 + j % 10 : Nat) : Int)] ++ o, by go_num, rfl, HBD.out.1, by rw [HSZ.out]; exact HBD.out.2, HF2, HG2, HB.out.alloc HB.out.size _⟩
      case measure => simp [intOf]; omega
end Go.Proofs.Ytmbbmibkjnlkkaa
/- Plain facts on lines and gaps: what both sides answer, with no program in it. -/
namespace Go.Proofs.Ytmbbmibkjnlkkaa
open Go.ChangeShapes Go.WideShapes Go.ChangeAt Go.RowKit
/-- How long a text may be here. -/
def mx : Nat := 4611686018427387903
/-- The byte at a place. -/
def bt (s : ByteArray) (i : Nat) : Nat := (s.data[i]!).toNat
theorem bt_get (s : ByteArray) (i : Nat) (h : i < s.size) : (s[i]'h).toNat = bt s i := by
  unfold bt
  rw [getElem!_pos s.data i (by simpa using h)]; rfl
theorem bt_lt (s : ByteArray) (i : Nat) : bt s i < 256 := (s.data[i]!).toNat_lt
def cl (n : Nat) (p : Int) : Nat := min p.toNat n
theorem cl_le (n : Nat) (p : Int) : cl n p ≤ n := by unfold cl; omega
theorem cl_nat (n k : Nat) (h : k ≤ n) : cl n (k : Int) = k := by unfold cl; omega
/-- From a place on, over bytes that pass, with fuel. -/
def fw (P : Nat → Bool) (s : ByteArray) : Nat → Nat → Nat
  | 0, k => k
  | f + 1, k => if k < s.size ∧ P (bt s k) = true then fw P s f (k + 1) else k
def fwd (P : Nat → Bool) (s : ByteArray) (k : Nat) : Nat := fw P s (s.size - k) k
theorem fwd_step {P : Nat → Bool} {s : ByteArray} {k : Nat} (h : k < s.size) (hp : P (bt s k) = true) : fwd P s k = fwd P s (k + 1) := by
  unfold fwd
  rw [show s.size - k = (s.size - (k + 1)) + 1 by omega]
  show (if k < s.size ∧ P (bt s k) = true then _ else k) = _
  rw [if_pos ⟨h, hp⟩]
theorem fwd_stop {P : Nat → Bool} {s : ByteArray} {k : Nat} (h : P (bt s k) = false) : fwd P s k = k := by
  unfold fwd
  cases s.size - k with
  | zero => rfl
  | succ f => show (if k < s.size ∧ P (bt s k) = true then _ else k) = _; rw [if_neg (by rw [h]; simp)]
theorem fwd_end {P : Nat → Bool} {s : ByteArray} {k : Nat} (h : s.size ≤ k) : fwd P s k = k := by
  unfold fwd; rw [show s.size - k = 0 by omega]; rfl
theorem fwd_ind {P : Nat → Bool} {s : ByteArray} {M : Nat → Prop} (hend : ∀ k, s.size ≤ k → M k) (hstop : ∀ k, k < s.size → P (bt s k) = false → M k) (hstep : ∀ k, k < s.size → P (bt s k) = true → M (k + 1) → M k) : ∀ k, M k := by
  intro k
  generalize hf : s.size - k = f
  induction f generalizing k with
  | zero => exact hend k (by omega)
  | succ f ih =>
    cases hp : P (bt s k) with
    | false => exact hstop k (by omega) hp
    | true => exact hstep k (by omega) hp (ih (k + 1) (by omega))
theorem fwd_ge (P : Nat → Bool) (s : ByteArray) (k : Nat) : k ≤ fwd P s k := by
  revert k
  refine fwd_ind (P := P) (s := s) ?_ ?_ ?_
  · intro k h; rw [fwd_end h]; omega
  · intro k _ h; rw [fwd_stop h]; omega
  · intro k h hp ih; rw [fwd_step h hp]; omega
theorem fwd_le (P : Nat → Bool) (s : ByteArray) (k : Nat) (hk : k ≤ s.size) : fwd P s k ≤ s.size := by
  revert hk; revert k
  refine fwd_ind (P := P) (s := s) ?_ ?_ ?_
  · intro k h hk; rw [fwd_end h]; omega
  · intro k _ h hk; rw [fwd_stop h]; omega
  · intro k h hp ih hk; rw [fwd_step h hp]; exact ih (by omega)
theorem fwd_at (P : Nat → Bool) (s : ByteArray) (k : Nat) : fwd P s k < s.size → P (bt s (fwd P s k)) = false := by
  revert k
  refine fwd_ind (P := P) (s := s) ?_ ?_ ?_
  · intro k h hk; rw [fwd_end h] at hk; omega
  · intro k _ h hk; rw [fwd_stop h]; exact h
  · intro k h hp ih hk; rw [fwd_step h hp] at hk ⊢; exact ih hk
theorem fwd_in (P : Nat → Bool) (s : ByteArray) (k : Nat) : ∀ j, k ≤ j → j < fwd P s k → P (bt s j) = true := by
  revert k
  refine fwd_ind (P := P) (s := s) ?_ ?_ ?_
  · intro k h j h1 h2; rw [fwd_end h] at h2; omega
  · intro k _ h j h1 h2; rw [fwd_stop h] at h2; omega
  · intro k h hp ih j h1 h2
    rw [fwd_step h hp] at h2
    by_cases e : j = k
    · rw [e]; exact hp
    · exact ih j (by omega) h2
theorem fwd_skip {P : Nat → Bool} {s : ByteArray} {k : Nat} (j : Nat) (hkj : k ≤ j) (hj : j ≤ s.size) (h : ∀ i, k ≤ i → i < j → P (bt s i) = true) : fwd P s k = fwd P s j := by
  generalize hd : j - k = d
  induction d generalizing k with
  | zero => rw [show k = j by omega]
  | succ d ih => rw [fwd_step (by omega) (h k (by omega) (by omega))]; exact ih (by omega) (fun i h1 h2 => h i (by omega) h2) (by omega)
/-- The kinds of bytes. -/
def pW (c : Nat) : Bool := c == 32 || c == 9
def pG (c : Nat) : Bool := c == 32 || c == 9 || c == 10
def pN (c : Nat) : Bool := c != 10
def pB (c : Nat) : Bool := c == 32
/-- The beginning of a line. -/
def lnb (s : ByteArray) : Nat → Nat
  | 0 => 0
  | k + 1 => if bt s k = 10 then k + 1 else lnb s k
theorem lnb_le (s : ByteArray) (k : Nat) : lnb s k ≤ k := by
  induction k with
  | zero => exact Nat.le_refl _
  | succ k ih => unfold lnb; split <;> omega
theorem lnb_in (s : ByteArray) (k : Nat) : ∀ j, lnb s k ≤ j → j < k → bt s j ≠ 10 := by
  induction k with
  | zero => intro j _ h; omega
  | succ k ih =>
    intro j h1 h2
    unfold lnb at h1
    split at h1
    · omega
    · rename_i hk
      by_cases e : j = k
      · rw [e]; exact hk
      · exact ih j h1 (by omega)
/-- Whether a place is the beginning of a line. -/
def beg (s : ByteArray) (k : Nat) : Bool := k == 0 || bt s (k - 1) == 10
theorem lnb_beg (s : ByteArray) (k : Nat) : (lnb s k = k) ↔ beg s k = true := by
  cases k with
  | zero => simp [lnb, beg]
  | succ k =>
    have := lnb_le s k
    unfold lnb beg
    by_cases h : bt s k = 10
    · simp [h]
    · simp [h]; omega
theorem beg_lnb (s : ByteArray) (k : Nat) : beg s (lnb s k) = true := by
  induction k with
  | zero => rfl
  | succ k ih =>
    unfold lnb
    split
    · rename_i h; simp [beg, h]
    · exact ih
/-- What is asked of a text of signs. -/
theorem indexByte_pos (l : List UInt8) (c : UInt8) : decide (0 ≤ Lib.indexByte l c) = l.contains c := by
  induction l with
  | nil => rfl
  | cons b l ih =>
    have hge := Lib.indexByte_ge l c
    rw [List.contains_cons, ← ih]
    rw [show Lib.indexByte (b :: l) c = if b == c then 0 else if Lib.indexByte l c == -1 then -1 else Lib.indexByte l c + 1 from rfl]
    by_cases hb : b = c
    · subst hb; simp
    · have h1 : (b == c) = false := by simpa using hb
      have h2 : (c == b) = false := by simpa using fun h : c = b => hb h.symm
      rw [h1, h2, if_neg (by simp), Bool.false_or]
      by_cases hi : Lib.indexByte l c = -1
      · rw [hi]; rfl
      · rw [if_neg (by simpa using hi)]
        have e1 : (0 ≤ Lib.indexByte l c + 1) = (0 ≤ Lib.indexByte l c) := propext (by omega)
        simp only [e1]
theorem lastIdx_lnb (s : ByteArray) (q k : Nat) (hk : k ≤ q) (hq : q ≤ s.size) : Lib.lastIdx (s.extract 0 q) 10 k + 1 = (lnb s k : Int) := by
  have hz : (s.extract 0 q).size = q := by rw [ByteArray.size_extract]; omega
  have hb : ∀ i, i < q → ((s.extract 0 q).data[i]!).toNat = bt s i := by
    intro i hi
    unfold bt
    rw [getElem!_pos (s.extract 0 q).data i (by show i < (s.extract 0 q).size; omega), getElem!_pos s.data i (by show i < s.size; omega)]
    simp [ByteArray.data_extract]
  induction k with
  | zero => rfl
  | succ k ih =>
    unfold lnb
    by_cases h : bt s k = 10
    · rw [if_pos h, Lib.lastIdx_hit _ _ _ (by rw [hb k (by omega), h]; rfl)]; omega
    · rw [if_neg h, Lib.lastIdx_miss _ _ _ (by rw [hb k (by omega)]; omega)]; exact ih (by omega)
/-- Whether there is a gap. -/
def gapP (s : ByteArray) (k : Nat) : Bool := decide (s.size ≤ k) || pG (bt s k)
/-- The end of the line from a place on. -/
def endL (s : ByteArray) (k : Nat) : Nat := fwd pN s k
def wh (s : ByteArray) (k : Nat) : Nat := fwd pW s k
def brk (s : ByteArray) (k : Nat) : Bool := decide (s.size ≤ k) || bt s k == 10
theorem brk_end {s : ByteArray} {k : Nat} (hk : k ≤ s.size) : brk s k = decide (k = endL s k) := by
  unfold brk endL
  by_cases h : k < s.size
  · by_cases h1 : bt s k = 10
    · rw [fwd_stop (by simp [pN, h1])]; simp [h1]
    · have hp : pN (bt s k) = true := by simp [pN, h1]
      have := fwd_ge pN s (k + 1)
      rw [fwd_step h hp]
      have e : ¬ k = fwd pN s (k + 1) := by omega
      simp [h1, e]; omega
  · rw [fwd_end (by omega)]; simp; omega
/-- Rest. -/
def restP (s : ByteArray) (k q : Nat) : Bool := brk s q || (bt s q == 35 && (decide (k < q) || beg s k))
def rest (s : ByteArray) (k : Nat) : Nat × Bool := if restP s k (wh s k) = true then (endL s (wh s k), true) else (wh s k, false)
/-- Gap. -/
def rem (s : ByteArray) (k : Nat) : Bool := bt s k == 35 && (k == 0 || pG (bt s (k - 1)))
def gp (s : ByteArray) : Nat → Nat → Nat
  | 0, k => k
  | f + 1, k => if k < s.size then (if pG (bt s k) = true then gp s f (k + 1) else if rem s k = true then gp s f (endL s k) else k) else k
theorem rem_end {s : ByteArray} {k : Nat} (h : k < s.size) (hr : rem s k = true) : k < endL s k ∧ endL s k ≤ s.size := by
  have h35 : bt s k = 35 := by
    simp only [rem, Bool.and_eq_true, beq_iff_eq] at hr; exact hr.1
  have e : endL s k = fwd pN s (k + 1) := fwd_step h (by rw [h35]; rfl)
  have := fwd_ge pN s (k + 1)
  have := fwd_le pN s (k + 1) (by omega)
  omega
theorem gp_end (s : ByteArray) (f k : Nat) (h : s.size ≤ k) : gp s f k = k := by
  cases f with
  | zero => rfl
  | succ f => unfold gp; rw [if_neg (by omega)]
theorem gp_fuel (s : ByteArray) : ∀ (f g k : Nat), s.size - k ≤ f → s.size - k ≤ g → gp s f k = gp s g k := by
  intro f
  induction f with
  | zero => intro g k h _; rw [gp_end s 0 k (by omega), gp_end s g k (by omega)]
  | succ f ih =>
    intro g k h h'
    by_cases hk : k < s.size
    · obtain ⟨n, rfl⟩ : ∃ n, g = n + 1 := ⟨g - 1, by omega⟩
      unfold gp
      rw [if_pos hk, if_pos hk]
      split
      · exact ih n (k + 1) (by omega) (by omega)
      · split
        · rename_i hr
          have := rem_end hk hr
          exact ih n (endL s k) (by omega) (by omega)
        · rfl
    · rw [gp_end s _ k (by omega), gp_end s g k (by omega)]
def gap (s : ByteArray) (k : Nat) : Nat := gp s (s.size - k) k
theorem gap_end {s : ByteArray} {k : Nat} (h : s.size ≤ k) : gap s k = k := gp_end s _ k h
theorem gap_g {s : ByteArray} {k : Nat} (h : k < s.size) (hg : pG (bt s k) = true) : gap s k = gap s (k + 1) := by
  unfold gap
  rw [show s.size - k = (s.size - (k + 1)) + 1 by omega]
  conv => lhs; unfold gp
  rw [if_pos h, if_pos hg]
theorem gap_r {s : ByteArray} {k : Nat} (h : k < s.size) (hg : pG (bt s k) = false) (hr : rem s k = true) : gap s k = gap s (endL s k) := by
  have := rem_end h hr
  unfold gap
  rw [show s.size - k = (s.size - (k + 1)) + 1 by omega]
  conv => lhs; unfold gp
  rw [if_pos h, if_neg (by rw [hg]; simp), if_pos hr]
  exact gp_fuel s _ _ _ (by omega) (by omega)
theorem gap_no {s : ByteArray} {k : Nat} (hg : pG (bt s k) = false) (hr : rem s k = false) : gap s k = k := by
  by_cases h : k < s.size
  · unfold gap
    rw [show s.size - k = (s.size - (k + 1)) + 1 by omega]
    conv => lhs; unfold gp
    rw [if_pos h, if_neg (by rw [hg]; simp), if_neg (by rw [hr]; simp)]
  · exact gap_end (by omega)
theorem pW_pG {c : Nat} (h : pW c = true) : pG c = true := by unfold pG; unfold pW at h; rw [h]; rfl
theorem pG_or (c : Nat) : pG c = (pW c || c == 10) := rfl
theorem gap_skip (s : ByteArray) (k j : Nat) (hkj : k ≤ j) (hj : j ≤ s.size) (h : ∀ i, k ≤ i → i < j → pG (bt s i) = true) : gap s k = gap s j := by
  generalize hd : j - k = d
  induction d generalizing k with
  | zero => rw [show k = j by omega]
  | succ d ih => rw [gap_g (by omega) (h k (by omega) (by omega))]; exact ih (k + 1) (by omega) (fun i h1 h2 => h i (by omega) h2) (by omega)
theorem gap_wh (s : ByteArray) (k : Nat) (hk : k ≤ s.size) : gap s k = gap s (wh s k) :=
  gap_skip s k _ (fwd_ge _ _ _) (fwd_le _ _ _ hk) fun i h1 h2 => pW_pG (fwd_in _ _ _ i h1 h2)
theorem rem_spec (s : ByteArray) (q : Nat) (h : bt s q = 35) : rem s q = (beg s q || pW (bt s (q - 1))) := by
  unfold rem beg
  rw [h, pG_or]
  cases (q == 0) <;> cases (pW (bt s (q - 1))) <;> cases (bt s (q - 1) == 10) <;> rfl
theorem gap_ge (s : ByteArray) (k : Nat) (hk : k ≤ s.size) : k ≤ gap s k ∧ gap s k ≤ s.size := by
  suffices h : ∀ f k, k ≤ s.size → k ≤ gp s f k ∧ gp s f k ≤ s.size from h _ k hk
  intro f
  induction f with
  | zero => intro k h; exact ⟨Nat.le_refl _, h⟩
  | succ f ih =>
    intro k h
    unfold gp
    split
    · rename_i hlt
      split
      · have := ih (k + 1) (by omega); omega
      · split
        · rename_i hr
          have := rem_end hlt hr
          have := ih (endL s k) (by omega); omega
        · omega
    · omega
/-- A mark. -/
def is3 (s : ByteArray) (p c : Nat) : Bool := bt s p == c && (bt s (p + 1) == c && bt s (p + 2) == c)
def markN (s : ByteArray) (p : Nat) : Nat :=
  if beg s p = true ∧ p + 3 ≤ s.size ∧ gapP s (p + 3) = true then (if is3 s p 45 = true then 1 else if is3 s p 46 = true then 2 else 0) else 0
theorem ba_ext {a b : ByteArray} (h : a.data.toList = b.data.toList) : a = b := by
  cases a; cases b; simp at h; simp [h]
theorem ext3 (s : ByteArray) (p : Nat) (h : p + 3 ≤ s.size) : (s.extract p (p + 3)).data.toList = [s.data[p]!, s.data[p + 1]!, s.data[p + 2]!] := by
  have hd : ∀ i, i < s.size → i < s.data.size := fun i h => h
  rw [ByteArray.data_extract, Array.toList_extract, List.extract_eq_take_drop, show p + 3 - p = 3 by omega]
  rw [getElem!_pos s.data p (hd _ (by omega)), getElem!_pos s.data (p + 1) (hd _ (by omega)), getElem!_pos s.data (p + 2) (hd _ (by omega))]
  rw [List.drop_eq_getElem_cons (by have := hd p (by omega); simpa using this), List.take_succ_cons, List.drop_eq_getElem_cons (by have := hd (p + 1) (by omega); simpa using this), List.take_succ_cons, List.drop_eq_getElem_cons (by have := hd (p + 2) (by omega); simpa using this), List.take_succ_cons, List.take_zero]
  rfl
theorem is3_ext (s : ByteArray) (p : Nat) (h : p + 3 ≤ s.size) (c : UInt8) : is3 s p c.toNat = decide ((s.extract p (p + 3)).data.toList = [c, c, c]) := by
  rw [ext3 s p h]
  have e : ∀ i, (bt s i == c.toNat) = decide (s.data[i]! = c) := by
    intro i
    unfold bt
    rw [Bool.eq_iff_iff]
    simp [UInt8.toNat_inj]
  unfold is3
  rw [e, e, e, Bool.eq_iff_iff]
  simp
end Go.Proofs.Ytmbbmibkjnlkkaa
/- spec.LineAt and impl.LineAt both answer the beginning of the line, Col how far that is; nothing that was there is changed. -/
namespace Go.Proofs
open Go.Shelf

end Go.Proofs
namespace Go.Proofs.Ytmbbmibkjnlkkaa
open Go.ChangeShapes Go.WideShapes Go.ChangeAt Go.RowKit
theorem ret_int {k : IntKind} {a b : Int} (h : a = b) : Ending.returned (.int k a) = .returned (.int k b) := by rw [h]
theorem ret_bool {a b : Bool} (h : a = b) : Ending.returned (.bool a) = .returned (.bool b) := by rw [h]
theorem bring_any (s : ByteArray) (p : Int) (w : World) (hs : s.size ≤ mx) :
    Calls Try.prog 74 #[.string s, .int .i64 p] w fun e w' => e = .returned (.int .i64 (cl s.size p)) ∧ w' = w := by
  unfold mx at hs
  go_enter Try.func74, Try.ntmps74
  go_wp2
  all_goals
    go_ret
    refine ⟨ret_int ?_, rfl⟩
    unfold cl
    first | omega | (split at * <;> omega) | (trace_state; done)
end Go.Proofs.Ytmbbmibkjnlkkaa
/- The closures of impl, and what goes over bytes: impl.over, among, EndAt, White; spec's side of EndAt and White. -/
namespace Go.Proofs
open Go.Shelf
def Try.lays137_ren : Go.Shelf.Ren := ⟨fun | 137 => 73 | 217 => 75 | 266 => 76 | n => n, fun | 3 => 3 | 5 => 5 | 9 => 9 | n => n, fun | n => n⟩
theorem Try.lays137 : Go.Proofs.Lays.n137 Try.prog Try.lays137_ren := {
  mixed := by kernel_rfl
  f137 := Try.func73.trans (congrArg some (by kernel_rfl))
  f217 := Try.func75.trans (congrArg some (by kernel_rfl))
  f266 := Try.func76.trans (congrArg some (by kernel_rfl))
  t3 := Try.underlying3
  a3 := Try.isAgg3
  z3 := Try.sizeOf3
  v3 := Try.zeroValue3
  t5 := Try.underlying5
  a5 := Try.isAgg5
  z5 := Try.sizeOf5
  v5 := Try.zeroValue5
  t9 := Try.underlying9
  a9 := Try.isAgg9
  z9 := Try.sizeOf9
  v9 := Try.zeroValue9 }

end Go.Proofs
namespace Go.Proofs.Ytmbbmibkjnlkkaa
open Go.ChangeShapes Go.WideShapes Go.ChangeAt Go.RowKit Go.Shelf
/-- What is asked of a function value: at every later world and every byte it answers p, and what lay, lies. -/
def PredB (g : Nat) (lb : Array Value) (p : Nat → Bool) (w : World) : Prop :=
  ∀ (W : World) (x : Nat), x < 256 → Below w.heap.size w W → Calls Try.prog g (#[.int .u8 (x : Int)] ++ lb) W fun e w' => e = .returned (.bool (p x)) ∧ Below W.heap.size W w'
theorem PredB.later {g : Nat} {lb : Array Value} {p : Nat → Bool} {w W : World} (h : PredB g lb p w) (hb : Below w.heap.size w W) : PredB g lb p W :=
  fun W' x hx hb' => h W' x hx (hb.trans (hb'.mono hb.size))
theorem indexByte_any (s : ByteArray) (c : Int) (w : World) :
    Calls Try.prog 73 #[.string s, .int .u8 c] w fun e w' => e = .returned (.int .i64 (Lib.indexByte s.data.toList c.toNat.toUInt8)) ∧ w' = w :=
  Any.strings_IndexByte Try.lays137 s c w
set_option maxHeartbeats 1000000 in
theorem over_any (s : ByteArray) (p : Int) (g : Nat) (lb : Array Value) (P : Nat → Bool) (eg : ∀ args w, (callFunc g args).run Try.prog w = .ok (.enter g args) w) (w : World) (hs : s.size ≤ mx) (hp : PredB g lb P w) :
    Calls Try.prog 70 #[.string s, .int .i64 p, .func (.func g) #[] lb] w fun e w' => e = .returned (.int .i64 (fwd P s (cl s.size p))) ∧ Below w.heap.size w w' := by
  have hcl := cl_le s.size p
  unfold mx at hs
  go_enter Try.func70, Try.ntmps70
  go_wp2_with fail
  refine (bring_any _ _ _ hs).mono ?_
  rintro e w1 ⟨rfl, rfl⟩
  generalize hq : cl s.size p = q at *
  have HQ : Hid (cl s.size p = q) := hq
  clear hq
  go_wp2_with fail
  go_loopw [1] (fun t w' => ∃ k : Nat, k ≤ s.size ∧ t = .int .i64 k ∧ Hid (fwd P s k = fwd P s q) ∧ Below w1.heap.size w1 w') (fun t _ => s.size - (intOf t).toNat)
  case atStart => exact ⟨q, hcl, rfl, rfl, Below.refl _ _⟩
  case round =>
    obtain ⟨k, hk, rfl, HL, hbw⟩ := hrel
    by_cases hlt : k < s.size
    · have hb := bt_get s k hlt
      have hx := bt_lt s k
      have cS : Calls Try.prog g (#[.int .u8 (bt s k : Int)] ++ lb) wr _ := hp wr _ hx hbw
      rw [← hb] at cS
      cases hP : P (bt s k) with
      | true =>
        have HE : Hid (fwd P s (k + 1) = fwd P s q) := by show fwd P s (k + 1) = fwd P s q; rw [← HL.out, fwd_step hlt hP]
        rw [hb, hP, ← hb] at cS
        clear hb hP hx hp
        go_wp2_with (go_at_fn g; refine cS.mono ?_; rintro e W' ⟨rfl, hbc⟩)
        go_roundw
        case rel => exact ⟨k + 1, by omega, by go_num, HE, hbw.trans (hbc.mono hbw.size)⟩
        case measure => simp [intOf]; omega
      | false =>
        have HE : Hid (fwd P s q = k) := by show fwd P s q = k; rw [← HL.out, fwd_stop hP]
        rw [hb, hP, ← hb] at cS
        clear hb hP hx hp
        go_wp2_with (go_at_fn g; refine cS.mono ?_; rintro e W' ⟨rfl, hbc⟩)
        go_ret
        exact ⟨ret_int (by rw [HQ.out, HE.out]), hbw.trans (hbc.mono hbw.size)⟩
    · have HE : Hid (fwd P s q = k) := by show fwd P s q = k; rw [← HL.out, fwd_end (by omega)]
      clear hp
      go_wp2_with fail
      go_ret
      exact ⟨ret_int (by rw [HQ.out, HE.out]), hbw⟩
/-- among, and its closure. -/
theorem amongC_any (t : ByteArray) (P : Nat → Bool) (B : Nat) (w : World) (hB : w.heap[B]? = some (.cells #[.string t] 9 (0, 0))) (hP : ∀ x, x < 256 → P x = t.data.toList.contains x.toUInt8) : PredB 72 #[.pointer (some ⟨B, 0, none⟩)] P w := by
  intro W x hx hb
  have hlt : B < w.heap.size := (Array.getElem?_eq_some_iff.1 hB).1
  have hBW : W.heap[B]? = some (.cells #[.string t] 9 (0, 0)) := (hb.block _ hlt).trans hB
  have hpos := indexByte_pos t.data.toList x.toUInt8
  rw [← hP x hx] at hpos
  have hcl : W.cell? ⟨B, 0, none⟩ = some (.string t) := by simp [World.cell?, hBW]
  clear hBW hB hb hP
  show Calls Try.prog 72 #[.int .u8 (x : Int), .pointer (some ⟨B, 0, none⟩)] W _
  have HC : Hid (decide (0 ≤ Lib.indexByte t.data.toList x.toUInt8) = P x) := hpos
  clear hpos
  go_enter Try.func72, Try.ntmps72
  go_wp2_with fail
  refine (indexByte_any _ _ _).mono ?_
  rintro e w1 ⟨rfl, rfl⟩
  go_wp2_with fail
  go_ret
  exact ⟨ret_bool HC.out, Below.refl _ _⟩
theorem among_any (t : ByteArray) (w : World) :
    Calls Try.prog 69 #[.string t] w fun e w' => ∃ B, e = .returned (.func (.func 72) #[] #[.pointer (some ⟨B, 0, none⟩)]) ∧ w'.heap[B]? = some (.cells #[.string t] 9 (0, 0)) ∧ Below w.heap.size w w' := by
  go_enter Try.func69, Try.ntmps69
  go_wp2
  go_ret
  exact ⟨_, rfl, by show (w.heap.push _)[w.heap.size]? = _; simp, (Below.refl _ _).alloc (Nat.le_refl _) _⟩
theorem u8_eq {x : Nat} (hx : x < 256) (c : UInt8) : (x.toUInt8 == c) = (x == c.toNat) := by
  rw [Bool.eq_iff_iff, beq_iff_eq, beq_iff_eq, ← UInt8.toNat_inj]
  have : x.toUInt8.toNat = x := by
    show (UInt8.ofNat x).toNat = x
    rw [UInt8.toNat_ofNat']; omega
  rw [this]
theorem pW_signs : ∀ x, x < 256 → pW x = (ByteArray.mk #[32, 9]).data.toList.contains x.toUInt8 := by
  intro x hx
  show pW x = [32, 9].contains x.toUInt8
  rw [List.contains_cons, List.contains_cons, List.contains_nil, u8_eq hx, u8_eq hx, Bool.or_false]
  rfl
theorem pG_signs : ∀ x, x < 256 → pG x = (ByteArray.mk #[32, 9, 10]).data.toList.contains x.toUInt8 := by
  intro x hx
  show pG x = [32, 9, 10].contains x.toUInt8
  rw [List.contains_cons, List.contains_cons, List.contains_cons, List.contains_nil, u8_eq hx, u8_eq hx, u8_eq hx, Bool.or_false]
  show (x == 32 || x == 9 || x == 10) = (x == 32 || (x == 9 || x == 10))
  rw [Bool.or_assoc]
theorem pB_signs : ∀ x, x < 256 → pB x = (ByteArray.mk #[32]).data.toList.contains x.toUInt8 := by
  intro x hx
  show pB x = [32].contains x.toUInt8
  rw [List.contains_cons, List.contains_nil, u8_eq hx, Bool.or_false]
  rfl
theorem among_over (s t : ByteArray) (p : Int) (P : Nat → Bool) (B : Nat) (w : World) (hs : s.size ≤ mx) (hB : w.heap[B]? = some (.cells #[.string t] 9 (0, 0))) (hP : ∀ x, x < 256 → P x = t.data.toList.contains x.toUInt8) :
    Calls Try.prog 70 #[.string s, .int .i64 p, .func (.func 72) #[] #[.pointer (some ⟨B, 0, none⟩)]] w fun e w' => e = .returned (.int .i64 (fwd P s (cl s.size p))) ∧ Below w.heap.size w w' :=
  over_any s p 72 _ P (enters_of Try.func72 (by kernel_rfl) rfl) w hs (amongC_any t P B w hB hP)
/- spec's side. -/
theorem spec_white1 (s : ByteArray) (k : Nat) (w : World) (b : Bool) (hb : b = (decide (k < s.size) && pW (bt s k))) :
    Calls Try.prog 57 #[.string s, .int .i64 (k : Int)] w fun e w' => e = .returned (.bool b) ∧ w' = w := by
  subst hb
  by_cases hlt : k < s.size
  · have hg := bt_get s k hlt
    have HP : Hid ((decide (k < s.size) && pW (bt s k)) = (((s[k]'hlt).toNat : Int) == 32 || ((s[k]'hlt).toNat : Int) == 9)) := by
      show (decide (k < s.size) && pW (bt s k)) = (((s[k]'hlt).toNat : Int) == 32 || ((s[k]'hlt).toNat : Int) == 9)
      rw [hg, decide_eq_true hlt, Bool.true_and, Bool.eq_iff_iff]
      simp [pW]; omega
    rw [HP.out]
    clear hg HP
    by_cases h1 : (s[k]'hlt).toNat = 32
    · go_enter Try.func57, Try.ntmps57
      go_wp2_with fail
      go_ret
      refine ⟨ret_bool ?_, rfl⟩
      simp [h1]
    · have h1' : (((s[k]'hlt).toNat : Int) == 32) = false := by rw [beq_eq_false_iff_ne]; omega
      clear h1
      go_enter Try.func57, Try.ntmps57
      go_wp2_with fail
      go_ret
      refine ⟨ret_bool ?_, rfl⟩
      simp [h1']
  · have HP : Hid ((decide (k < s.size) && pW (bt s k)) = false) := by
      show (decide (k < s.size) && pW (bt s k)) = false
      rw [decide_eq_false hlt]; rfl
    rw [HP.out]
    go_enter Try.func57, Try.ntmps57
    go_wp2_with fail
    go_ret
    exact ⟨rfl, rfl⟩
end Go.Proofs.Ytmbbmibkjnlkkaa
/- spec.EndAt answers the end of the line. -/
namespace Go.Proofs.Ytmbbmibkjnlkkaa
open Go.ChangeShapes Go.WideShapes Go.ChangeAt Go.RowKit
end Go.Proofs.Ytmbbmibkjnlkkaa
/- Contracts at places of the text; the small questions of both sides: is there a break, is it the beginning of a line. -/
namespace Go.Proofs.Ytmbbmibkjnlkkaa
open Go.ChangeShapes Go.WideShapes Go.ChangeAt Go.RowKit
theorem bring_nat (s : ByteArray) (k : Nat) (w : World) (hs : s.size ≤ mx) (hk : k ≤ s.size) :
    Calls Try.prog 74 #[.string s, .int .i64 (k : Int)] w fun e w' => e = .returned (.int .i64 (k : Int)) ∧ w' = w := by
  have := bring_any s (k : Int) w hs
  rw [cl_nat _ _ hk] at this
  exact this
theorem spec_break (s : ByteArray) (k : Nat) (w : World) (b : Bool) (hb : b = brk s k) :
    Calls Try.prog 58 #[.string s, .int .i64 (k : Int)] w fun e w' => e = .returned (.bool b) ∧ w' = w := by
  subst hb
  by_cases hlt : k < s.size
  · have hg := bt_get s k hlt
    have HP : Hid (brk s k = (((s[k]'hlt).toNat : Int) == 10)) := by
      show brk s k = (((s[k]'hlt).toNat : Int) == 10)
      rw [hg, Bool.eq_iff_iff]
      simp [brk]; omega
    clear hg
    go_enter Try.func58, Try.ntmps58
    go_wp2_with fail
    go_ret
    exact ⟨ret_bool (by rw [HP.out]; try rw [decide_eq_false (by omega), Bool.false_or]), rfl⟩
  · have HP : Hid (brk s k = true) := by
      show brk s k = true
      unfold brk; rw [decide_eq_true (by omega)]; rfl
    rw [HP.out]
    go_enter Try.func58, Try.ntmps58
    go_wp2_with fail
    go_ret
    exact ⟨rfl, rfl⟩
theorem ret_tn {a c : Int} {b d : Bool} (h : a = c) (h' : b = d) : Ending.returned (.tuple #[.int .i64 a, .bool b]) = .returned (.tuple #[.int .i64 c, .bool d]) := by rw [h, h']
end Go.Proofs.Ytmbbmibkjnlkkaa
/- impl.begins tells whether a place is the beginning of a line. -/
namespace Go.Proofs.Ytmbbmibkjnlkkaa
open Go.ChangeShapes Go.WideShapes Go.ChangeAt Go.RowKit
end Go.Proofs.Ytmbbmibkjnlkkaa
/- spec.MarkAt and impl.MarkAt both answer what 'markN' says. -/
namespace Go.Proofs.Ytmbbmibkjnlkkaa
open Go.ChangeShapes Go.WideShapes Go.ChangeAt Go.RowKit
theorem below_drewN (w : World) (n : Nat) : Below w.heap.size w (w.drewN n) := by
  induction n with
  | zero => exact Below.refl _ _
  | succ n ih => exact ih.drew
def pre (s t : ByteArray) : Bool := decide (t.size ≤ s.size ∧ s.extract 0 t.size = t)
theorem toList_beq (a b : ByteArray) : (a.toList == b.toList) = decide (a = b) := by
  rw [Bool.eq_iff_iff]; simp only [beq_iff_eq, decide_eq_true_eq]
  constructor
  · intro h
    apply ba_ext
    rw [← ByteArray.toList_eq, ← ByteArray.toList_eq, h]
  · intro h; rw [h]
theorem pre3 (s : ByteArray) (p : Nat) (hp : p ≤ s.size) (c : UInt8) : pre (s.extract p s.size) ⟨#[c, c, c]⟩ = (decide (p + 3 ≤ s.size) && is3 s p c.toNat) := by
  have hz : (s.extract p s.size).size = s.size - p := by rw [ByteArray.size_extract]; omega
  have h3 : (ByteArray.mk #[c, c, c]).size = 3 := rfl
  unfold pre
  rw [hz, h3]
  by_cases h : p + 3 ≤ s.size
  · rw [is3_ext s p h, decide_eq_true h, Bool.true_and, Bool.eq_iff_iff, decide_eq_true_eq, decide_eq_true_eq]
    have e : (s.extract p s.size).extract 0 3 = s.extract p (p + 3) := by
      apply ba_ext
      simp only [ByteArray.data_extract, Array.toList_extract, List.extract_eq_take_drop, List.drop_zero]
      rw [List.take_take]
      congr 1
      omega
    rw [e]
    constructor
    · intro h'; rw [h'.2]
    · intro h'; exact ⟨by omega, ba_ext h'⟩
  · rw [decide_eq_false h, Bool.false_and, decide_eq_false_iff_not]
    intro h'; omega
theorem is3_not (s : ByteArray) (p : Nat) (h : is3 s p 45 = true) : is3 s p 46 = false := by
  unfold is3 at *
  simp only [Bool.and_eq_true, beq_iff_eq] at h
  rw [h.1]; rfl
theorem isGap_heap (s : ByteArray) (k A : Nat) (h : k < s.size) (w : World) (b : Bool) (hA : w.heap[A]? = some (.cells #[.string ⟨#[32, 9, 10]⟩] 9 (0, 0))) (hb : pG (bt s k) = b) :
    Calls Try.prog 72 #[.int .u8 ((s[k]'h).toNat : Int), .pointer (some ⟨A, 0, none⟩)] w fun e w' => e = .returned (.bool b) ∧ Below w.heap.size w w' := by
  subst hb
  have := amongC_any ⟨#[32, 9, 10]⟩ pG A w hA pG_signs w (bt s k) (bt_lt s k) (Below.refl _ _)
  rw [← bt_get s k h] at this ⊢
  exact this
/-- What MarkAt answers, by the two beginnings. -/
def m3 (s : ByteArray) (p : Nat) (c : UInt8) : Bool := pre (s.extract p s.size) ⟨#[c, c, c]⟩
theorem mark_0 {s : ByteArray} {p : Nat} (h : beg s p = false) : markN s p = 0 := by
  unfold markN; rw [if_neg (by rw [h]; simp)]
theorem mark_short {s : ByteArray} {p : Nat} (h : s.size < p + 3) : markN s p = 0 := by
  unfold markN; rw [if_neg (by omega)]
theorem mark_nogap {s : ByteArray} {p : Nat} (h : gapP s (p + 3) = false) : markN s p = 0 := by
  unfold markN; rw [if_neg (by rw [h]; simp)]
theorem mark_1 {s : ByteArray} {p : Nat} (hb : beg s p = true) (h : p + 3 ≤ s.size) (hg : gapP s (p + 3) = true) (h1 : is3 s p 45 = true) : markN s p = 1 := by
  unfold markN; rw [if_pos ⟨hb, h, hg⟩, if_pos h1]
theorem mark_2 {s : ByteArray} {p : Nat} (hb : beg s p = true) (h : p + 3 ≤ s.size) (hg : gapP s (p + 3) = true) (h1 : is3 s p 45 = false) (h2 : is3 s p 46 = true) : markN s p = 2 := by
  unfold markN; rw [if_pos ⟨hb, h, hg⟩, if_neg (by rw [h1]; simp), if_pos h2]
theorem mark_no {s : ByteArray} {p : Nat} (h1 : is3 s p 45 = false) (h2 : is3 s p 46 = false) : markN s p = 0 := by
  unfold markN; rw [h1, h2]; simp
end Go.Proofs.Ytmbbmibkjnlkkaa
/- spec.MarkAt answers what 'markN' says. -/
namespace Go.Proofs.Ytmbbmibkjnlkkaa
open Go.ChangeShapes Go.WideShapes Go.ChangeAt Go.RowKit
theorem gapP_or (s : ByteArray) (k : Nat) : gapP s k = ((decide (k < s.size) && pW (bt s k)) || brk s k) := by
  unfold gapP brk
  rw [pG_or]
  by_cases h : k < s.size
  · rw [decide_eq_true h, decide_eq_false (show ¬ s.size ≤ k by omega)]; rfl
  · rw [decide_eq_false h, decide_eq_true (show s.size ≤ k by omega)]; rfl
theorem spec_gap1 (s : ByteArray) (k : Nat) (w : World) (b : Bool) (hb : b = gapP s k) :
    Calls Try.prog 49 #[.string s, .int .i64 (k : Int)] w fun e w' => e = .returned (.bool b) ∧ w' = w := by
  rw [gapP_or] at hb
  cases hW : (decide (k < s.size) && pW (bt s k)) with
  | true =>
    have HW : Hid (true = (decide (k < s.size) && pW (bt s k))) := hW.symm
    have HB : Hid (b = true) := by show b = true; rw [hb, hW]; rfl
    clear hW hb
    go_enter Try.func49, Try.ntmps49
    go_wp2_with fail
    refine (spec_white1 s k _ true HW.out).mono ?_
    rintro e w1 ⟨rfl, rfl⟩
    go_wp2_with fail
    go_ret
    exact ⟨ret_bool HB.out.symm, rfl⟩
  | false =>
    have HW : Hid (false = (decide (k < s.size) && pW (bt s k))) := hW.symm
    have HB : Hid (b = brk s k) := by show b = brk s k; rw [hb, hW]; rfl
    clear hW hb
    go_enter Try.func49, Try.ntmps49
    go_wp2_with fail
    refine (spec_white1 s k _ false HW.out).mono ?_
    rintro e w1 ⟨rfl, rfl⟩
    go_wp2_with fail
    refine (spec_break s k _ b HB.out).mono ?_
    rintro e w1 ⟨rfl, rfl⟩
    go_wp2_with fail
    go_ret
    exact ⟨ret_bool rfl, rfl⟩
theorem eq3 (s : ByteArray) (p : Nat) (h : p + 3 ≤ s.size) (c : UInt8) (b : Bool) (hb : is3 s p c.toNat = b) : ((s.extract p (p + 3)).toList == [c, c, c]) = b := by
  rw [show [c, c, c] = (ByteArray.mk #[c, c, c]).toList from by rw [ByteArray.toList_eq], ← hb, is3_ext s p h, toList_beq, Bool.eq_iff_iff, decide_eq_true_eq, decide_eq_true_eq]
  constructor
  · intro h'; rw [h']
  · intro h'; exact ba_ext h'
end Go.Proofs.Ytmbbmibkjnlkkaa
/- Flow signs, and what a plain scalar may begin with and where it ends, as plain functions; the contract of spec.l04Flow. -/
namespace Go.Proofs.Ytmbbmibkjnlkkaa
open Go.ChangeShapes Go.WideShapes Go.ChangeAt Go.RowKit
def pF6 (c : Nat) : Bool := c == 44 || c == 91 || c == 93 || c == 123 || c == 125
theorem flow6 (x : Nat) (w : World) (b : Bool) (hb : b = pF6 x) :
    Calls Try.prog 50 #[.int .u8 (x : Int)] w fun e w' => e = .returned (.bool b) ∧ w' = w := by
  subst hb
  by_cases h : x = 44 ∨ x = 91 ∨ x = 93 ∨ x = 123 ∨ x = 125
  · rcases h with rfl | rfl | rfl | rfl | rfl
    all_goals
      go_enter Try.func50, Try.ntmps50
      go_wp2_with fail
      go_ret
      exact ⟨rfl, rfl⟩
  · have e : pF6 x = false := by
      unfold pF6
      simp only [Bool.or_eq_false_iff, beq_eq_false_iff_ne]
      omega
    have h1 : ((x : Int) == 44) = false := by rw [beq_eq_false_iff_ne]; omega
    have h2 : ((x : Int) == 91) = false := by rw [beq_eq_false_iff_ne]; omega
    have h3 : ((x : Int) == 93) = false := by rw [beq_eq_false_iff_ne]; omega
    have h4 : ((x : Int) == 123) = false := by rw [beq_eq_false_iff_ne]; omega
    have h5 : ((x : Int) == 125) = false := by rw [beq_eq_false_iff_ne]; omega
    rw [e]
    clear h e
    go_enter Try.func50, Try.ntmps50
    go_wp2_with fail
    go_ret
    exact ⟨rfl, rfl⟩
def badL : List Nat := [44, 91, 93, 123, 125, 35, 38, 42, 33, 124, 62, 39, 34, 37, 64, 96]
/-- A plain scalar may begin at k. -/
def plF (s : ByteArray) (k : Nat) (fl : Bool) : Bool :=
  if gapP s k = true then false
  else if bt s k ∈ badL then false
  else if bt s k ≠ 45 ∧ bt s k ≠ 63 ∧ bt s k ≠ 58 then true
  else !gapP s (k + 1) && !(fl && pF6 (bt s (k + 1)))
/-- A plain scalar that began at p stops at q, ahead of the line's end. -/
def stopP (s : ByteArray) (p q : Nat) (fl : Bool) : Bool :=
  (bt s q == 35 && (decide (p < q) && pW (bt s (q - 1)))) || ((fl && pF6 (bt s q)) || (bt s q == 58 && (gapP s (q + 1) || (fl && pF6 (bt s (q + 1))))))
def pe1 (s : ByteArray) (p : Nat) (fl : Bool) : Nat → Nat → Nat
  | 0, q => q
  | f + 1, q => if brk s q = true then q else if stopP s p q fl = true then q else pe1 s p fl f (q + 1)
def pe2 (s : ByteArray) (p : Nat) : Nat → Nat
  | 0 => 0
  | q + 1 => if p < q + 1 ∧ pW (bt s q) = true then pe2 s p q else q + 1
def plE (s : ByteArray) (p : Nat) (fl : Bool) : Nat := pe2 s p (pe1 s p fl (s.size - p) p)
end Go.Proofs.Ytmbbmibkjnlkkaa
