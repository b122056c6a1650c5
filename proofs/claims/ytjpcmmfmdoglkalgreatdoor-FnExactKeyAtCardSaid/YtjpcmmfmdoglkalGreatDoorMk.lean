/- spec.MarkAt and impl.MarkAt both answer what 'markN' says. -/
import Derived.Test.YtjpcmmfmdoglkalGreatDoorBeg
import Derived.Deep.QuietTactic
import Derived.BigQuiet
import Derived.LoopN
namespace Go.Proofs.YtjpcmmfmdoglkalGreatDoor
open Go.ChangeShapes Go.WideShapes Go.ChangeAt Go.RowKit
theorem below_drewN (w : World) (n : Nat) : Below w.heap.size w (w.drewN n) := by
  induction n with
  | zero => exact Below.refl _ _
  | succ n ih => exact ih.drew
def pre (s t : ByteArray) : Bool := decide (t.size ≤ s.size ∧ s.extract 0 t.size = t)
theorem toList_beq (a b : ByteArray) : (a.toList == b.toList) = decide (a = b) := by
  rw [Bool.eq_iff_iff]; simp only [beq_iff_eq, decide_eq_true_eq]
  constructor
  · intro h
    apply ba_ext
    rw [← ByteArray.toList_eq, ← ByteArray.toList_eq, h]
  · intro h; rw [h]
theorem hp_any (s t : ByteArray) (w : World) (b : Bool) (hb : b = pre s t) :
    Calls Tryz.prog 177 #[.string s, .string t] w fun e w' => e = .returned (.bool b) ∧ w' = w := by
  subst hb
  by_cases h : t.size ≤ s.size
  · go_enter Tryz.func177, Tryz.ntmps177
    go_wp2
    go_ret
    exact ⟨ret_bool (by rw [toList_beq]; simp [pre, h]), rfl⟩
  · go_enter Tryz.func177, Tryz.ntmps177
    go_wp2
    go_ret
    exact ⟨ret_bool (by simp [pre, h]), rfl⟩
theorem pre3 (s : ByteArray) (p : Nat) (hp : p ≤ s.size) (c : UInt8) : pre (s.extract p s.size) ⟨#[c, c, c]⟩ = (decide (p + 3 ≤ s.size) && is3 s p c.toNat) := by
  have hz : (s.extract p s.size).size = s.size - p := by rw [ByteArray.size_extract]; omega
  have h3 : (ByteArray.mk #[c, c, c]).size = 3 := rfl
  unfold pre
  rw [hz, h3]
  by_cases h : p + 3 ≤ s.size
  · rw [is3_ext s p h, decide_eq_true h, Bool.true_and, Bool.eq_iff_iff, decide_eq_true_eq, decide_eq_true_eq]
    have e : (s.extract p s.size).extract 0 3 = s.extract p (p + 3) := by
      apply ba_ext
      simp only [ByteArray.data_extract, Array.toList_extract, List.extract_eq_take_drop, List.drop_zero]
      rw [List.take_take]
      congr 1
      omega
    rw [e]
    constructor
    · intro h'; rw [h'.2]
    · intro h'; exact ⟨by omega, ba_ext h'⟩
  · rw [decide_eq_false h, Bool.false_and, decide_eq_false_iff_not]
    intro h'; omega
theorem is3_not (s : ByteArray) (p : Nat) (h : is3 s p 45 = true) : is3 s p 46 = false := by
  unfold is3 at *
  simp only [Bool.and_eq_true, beq_iff_eq] at h
  rw [h.1]; rfl
theorem isGap_heap (s : ByteArray) (k A : Nat) (h : k < s.size) (w : World) (b : Bool) (hA : w.heap[A]? = some (.cells #[.string ⟨#[32, 9, 10]⟩] 9 (0, 0))) (hb : pG (bt s k) = b) :
    Calls Tryz.prog 127 #[.int .u8 ((s[k]'h).toNat : Int), .pointer (some ⟨A, 0, none⟩)] w fun e w' => e = .returned (.bool b) ∧ Below w.heap.size w w' := by
  subst hb
  have := amongC_any ⟨#[32, 9, 10]⟩ pG A w hA pG_signs w (bt s k) (bt_lt s k) (Below.refl _ _)
  rw [← bt_get s k h] at this ⊢
  exact this
set_option maxHeartbeats 1000000 in
theorem gapAt_any (s : ByteArray) (k : Nat) (w : World) (b : Bool) (hk : k ≤ s.size) (hb : b = gapP s k) :
    Calls Tryz.prog 38 #[.string s, .int .i64 (k : Int)] w fun e w' => e = .returned (.bool b) ∧ Below w.heap.size w w' := by
  by_cases hlt : k < s.size
  · have HG : Hid (pG (bt s k) = b) := by
      show pG (bt s k) = b
      rw [hb]; unfold gapP; rw [decide_eq_false (by omega)]; rfl
    have hne : ((k : Int) == (s.size : Int)) = false := by rw [beq_eq_false_iff_ne]; omega
    clear hb
    go_enter Tryz.func38, Tryz.ntmps38
    go_wp2_with fail
    go_region_with (first
      | (go_at_call 80; refine (among_any _ _).mono ?_; rintro e w1 ⟨A, rfl, hA, hb1⟩)
      | (go_at_call 127; refine (isGap_heap s k A hlt _ b hA HG.out).mono ?_; rintro e w2 ⟨rfl, hb2⟩))
    all_goals
      go_wp2_with fail
      go_ret
      have hb3 : Below w.heap.size w w1 := ((Below.refl _ w).drew).trans (hb1.mono (by simp))
      exact ⟨ret_bool rfl, hb3.trans (hb2.mono hb3.size)⟩
  · obtain rfl : k = s.size := by omega
    have HB : Hid (b = true) := by show b = true; rw [hb]; unfold gapP; rw [decide_eq_true (Nat.le_refl _)]; rfl
    clear hb
    go_enter Tryz.func38, Tryz.ntmps38
    go_wp2_with fail
    go_quiet (fail)
    go_wp2
    go_ret
    exact ⟨ret_bool HB.out.symm, below_drewN _ _⟩
/-- What MarkAt answers, by the two beginnings. -/
def m3 (s : ByteArray) (p : Nat) (c : UInt8) : Bool := pre (s.extract p s.size) ⟨#[c, c, c]⟩
theorem mark_0 {s : ByteArray} {p : Nat} (h : beg s p = false) : markN s p = 0 := by
  unfold markN; rw [if_neg (by rw [h]; simp)]
theorem mark_short {s : ByteArray} {p : Nat} (h : s.size < p + 3) : markN s p = 0 := by
  unfold markN; rw [if_neg (by omega)]
theorem mark_nogap {s : ByteArray} {p : Nat} (h : gapP s (p + 3) = false) : markN s p = 0 := by
  unfold markN; rw [if_neg (by rw [h]; simp)]
theorem mark_1 {s : ByteArray} {p : Nat} (hb : beg s p = true) (h : p + 3 ≤ s.size) (hg : gapP s (p + 3) = true) (h1 : is3 s p 45 = true) : markN s p = 1 := by
  unfold markN; rw [if_pos ⟨hb, h, hg⟩, if_pos h1]
theorem mark_2 {s : ByteArray} {p : Nat} (hb : beg s p = true) (h : p + 3 ≤ s.size) (hg : gapP s (p + 3) = true) (h1 : is3 s p 45 = false) (h2 : is3 s p 46 = true) : markN s p = 2 := by
  unfold markN; rw [if_pos ⟨hb, h, hg⟩, if_neg (by rw [h1]; simp), if_pos h2]
theorem mark_no {s : ByteArray} {p : Nat} (h1 : is3 s p 45 = false) (h2 : is3 s p 46 = false) : markN s p = 0 := by
  unfold markN; rw [h1, h2]; simp
set_option maxHeartbeats 2000000 in
theorem mark_any (s : ByteArray) (p : Int) (w : World) (hs : s.size ≤ mx) :
    Calls Tryz.prog 135 #[.string s, .int .i64 p] w fun e w' => e = .returned (.int .i64 (markN s (cl s.size p))) ∧ Below w.heap.size w w' := by
  have hcl := cl_le s.size p
  have hs' := hs
  unfold mx at hs'
  have i0 : ∀ w, (Instr.index 174 (.agg #[.string ⟨#[45, 45, 45]⟩, .string ⟨#[46, 46, 46]⟩]) (.int .i64 0)).run Tryz.prog w = .ok (.string ⟨#[45, 45, 45]⟩) w := fun _ => by kernel_rfl
  have i1 : ∀ w, (Instr.index 174 (.agg #[.string ⟨#[45, 45, 45]⟩, .string ⟨#[46, 46, 46]⟩]) (.int .i64 1)).run Tryz.prog w = .ok (.string ⟨#[46, 46, 46]⟩) w := fun _ => by kernel_rfl
  go_enter Tryz.func135, Tryz.ntmps135
  go_wp2_with fail
  refine (bring_any _ _ _ hs).mono ?_
  rintro e w1 ⟨rfl, rfl⟩
  generalize hk : cl s.size p = k at *
  have HK : Hid (cl s.size p = k) := hk
  clear hk
  cases hbg : beg s k with
  | false =>
    have HB : Hid (false = beg s k) := hbg.symm
    have HM : Hid (markN s k = 0) := mark_0 hbg
    clear hbg
    go_wp2_with fail
    refine (begins_any s k _ false hs hcl HB.out).mono ?_
    rintro e w2 ⟨rfl, rfl⟩
    go_wp2_with fail
    go_ret
    exact ⟨ret_int (by rw [HK.out, HM.out]; rfl), Below.refl _ _⟩
  | true =>
    have HB : Hid (true = beg s k) := hbg.symm
    clear hbg
    have h1 := pre3 s k hcl 45
    have h2 := pre3 s k hcl 46
    have H1 : Hid (pre (s.extract k s.size) ⟨#[45, 45, 45]⟩ = (decide (k + 3 ≤ s.size) && is3 s k 45)) := h1
    have H2 : Hid (pre (s.extract k s.size) ⟨#[46, 46, 46]⟩ = (decide (k + 3 ≤ s.size) && is3 s k 46)) := h2
    clear h1 h2
    by_cases hlen : k + 3 ≤ s.size
    · cases hi1 : is3 s k 45 with
      | true =>
        have HP1 : Hid (true = pre (s.extract k s.size) ⟨#[45, 45, 45]⟩) := by show true = _; rw [H1.out, hi1, decide_eq_true hlen]; rfl
        have HP2 : Hid (false = pre (s.extract k s.size) ⟨#[46, 46, 46]⟩) := by show false = _; rw [H2.out, is3_not s k hi1]; simp
        cases hgp : gapP s (k + 3) with
        | true =>
          have HG : Hid (true = gapP s (k + 3)) := hgp.symm
          have HM : Hid (markN s k = 1) := mark_1 HB.out.symm hlen hgp hi1
          clear hgp hi1
          go_wp2_with fail
          refine (begins_any s k _ true hs hcl HB.out).mono ?_
          rintro e w2 ⟨rfl, rfl⟩
          go_wp2_with fail
          refine wp_loop_rounds 1 ?_
          rw [rounds_succ]
          go_wp2_with fail
          refine (hp_any _ _ _ true HP1.out).mono ?_
          rintro e w3 ⟨rfl, rfl⟩
          go_wp2_with fail
          refine (gapAt_any s (k + 3) _ true hlen HG.out).mono ?_
          rintro e w4 ⟨rfl, hb4⟩
          go_wp2_with fail
          go_ret
          exact ⟨ret_int (by rw [HK.out, HM.out]; rfl), hb4⟩
        | false =>
          have HG : Hid (false = gapP s (k + 3)) := hgp.symm
          have HM : Hid (markN s k = 0) := mark_nogap hgp
          clear hgp hi1
          go_wp2_with fail
          refine (begins_any s k _ true hs hcl HB.out).mono ?_
          rintro e w2 ⟨rfl, rfl⟩
          go_wp2_with fail
          refine wp_loop_rounds 3 ?_
          rw [rounds_succ]
          go_wp2_with fail
          refine (hp_any _ _ _ true HP1.out).mono ?_
          rintro e w3 ⟨rfl, rfl⟩
          go_wp2_with fail
          refine (gapAt_any s (k + 3) _ false hlen HG.out).mono ?_
          rintro e w4 ⟨rfl, hb4⟩
          go_wp2_with fail
          rw [rounds_succ]
          go_wp2_with fail
          refine (hp_any _ _ _ false HP2.out).mono ?_
          rintro e w3 ⟨rfl, rfl⟩
          go_wp2_with fail
          rw [rounds_succ]
          go_wp2_with fail
          go_ret
          exact ⟨ret_int (by rw [HK.out, HM.out]; rfl), hb4⟩
      | false =>
        have HP1 : Hid (false = pre (s.extract k s.size) ⟨#[45, 45, 45]⟩) := by show false = _; rw [H1.out, hi1]; simp
        cases hi2 : is3 s k 46 with
        | true =>
          have HP2 : Hid (true = pre (s.extract k s.size) ⟨#[46, 46, 46]⟩) := by show true = _; rw [H2.out, hi2, decide_eq_true hlen]; rfl
          cases hgp : gapP s (k + 3) with
          | true =>
            have HG : Hid (true = gapP s (k + 3)) := hgp.symm
            have HM : Hid (markN s k = 2) := mark_2 HB.out.symm hlen hgp hi1 hi2
            clear hgp hi1 hi2
            go_wp2_with fail
            refine (begins_any s k _ true hs hcl HB.out).mono ?_
            rintro e w2 ⟨rfl, rfl⟩
            go_wp2_with fail
            refine wp_loop_rounds 2 ?_
            rw [rounds_succ]
            go_wp2_with fail
            refine (hp_any _ _ _ false HP1.out).mono ?_
            rintro e w3 ⟨rfl, rfl⟩
            go_wp2_with fail
            rw [rounds_succ]
            go_wp2_with fail
            refine (hp_any _ _ _ true HP2.out).mono ?_
            rintro e w3 ⟨rfl, rfl⟩
            go_wp2_with fail
            refine (gapAt_any s (k + 3) _ true hlen HG.out).mono ?_
            rintro e w4 ⟨rfl, hb4⟩
            go_wp2_with fail
            go_ret
            exact ⟨ret_int (by rw [HK.out, HM.out]; rfl), hb4⟩
          | false =>
            have HG : Hid (false = gapP s (k + 3)) := hgp.symm
            have HM : Hid (markN s k = 0) := mark_nogap hgp
            clear hgp hi1 hi2
            go_wp2_with fail
            refine (begins_any s k _ true hs hcl HB.out).mono ?_
            rintro e w2 ⟨rfl, rfl⟩
            go_wp2_with fail
            refine wp_loop_rounds 3 ?_
            rw [rounds_succ]
            go_wp2_with fail
            refine (hp_any _ _ _ false HP1.out).mono ?_
            rintro e w3 ⟨rfl, rfl⟩
            go_wp2_with fail
            rw [rounds_succ]
            go_wp2_with fail
            refine (hp_any _ _ _ true HP2.out).mono ?_
            rintro e w3 ⟨rfl, rfl⟩
            go_wp2_with fail
            refine (gapAt_any s (k + 3) _ false hlen HG.out).mono ?_
            rintro e w4 ⟨rfl, hb4⟩
            go_wp2_with fail
            rw [rounds_succ]
            go_wp2_with fail
            go_ret
            exact ⟨ret_int (by rw [HK.out, HM.out]; rfl), hb4⟩
        | false =>
          have HP2 : Hid (false = pre (s.extract k s.size) ⟨#[46, 46, 46]⟩) := by show false = _; rw [H2.out, hi2]; simp
          have HM : Hid (markN s k = 0) := mark_no hi1 hi2
          clear hi1 hi2
          go_wp2_with fail
          refine (begins_any s k _ true hs hcl HB.out).mono ?_
          rintro e w2 ⟨rfl, rfl⟩
          go_wp2_with fail
          refine wp_loop_rounds 3 ?_
          rw [rounds_succ]
          go_wp2_with fail
          refine (hp_any _ _ _ false HP1.out).mono ?_
          rintro e w3 ⟨rfl, rfl⟩
          go_wp2_with fail
          rw [rounds_succ]
          go_wp2_with fail
          refine (hp_any _ _ _ false HP2.out).mono ?_
          rintro e w3 ⟨rfl, rfl⟩
          go_wp2_with fail
          rw [rounds_succ]
          go_wp2_with fail
          go_ret
          exact ⟨ret_int (by rw [HK.out, HM.out]; rfl), Below.refl _ _⟩
    · have HP1 : Hid (false = pre (s.extract k s.size) ⟨#[45, 45, 45]⟩) := by show false = _; rw [H1.out, decide_eq_false hlen]; rfl
      have HP2 : Hid (false = pre (s.extract k s.size) ⟨#[46, 46, 46]⟩) := by show false = _; rw [H2.out, decide_eq_false hlen]; rfl
      have HM : Hid (markN s k = 0) := mark_short (by omega)
      go_wp2_with fail
      refine (begins_any s k _ true hs hcl HB.out).mono ?_
      rintro e w2 ⟨rfl, rfl⟩
      go_wp2_with fail
      refine wp_loop_rounds 3 ?_
      rw [rounds_succ]
      go_wp2_with fail
      refine (hp_any _ _ _ false HP1.out).mono ?_
      rintro e w3 ⟨rfl, rfl⟩
      go_wp2_with fail
      rw [rounds_succ]
      go_wp2_with fail
      refine (hp_any _ _ _ false HP2.out).mono ?_
      rintro e w3 ⟨rfl, rfl⟩
      go_wp2_with fail
      rw [rounds_succ]
      go_wp2_with fail
      go_ret
      exact ⟨ret_int (by rw [HK.out, HM.out]; rfl), Below.refl _ _⟩
end Go.Proofs.YtjpcmmfmdoglkalGreatDoor
