/- spec.MarkAt answers what 'markN' says. -/
import Derived.Test.YtjpcmmfmdoglkalGreatDoorMk
namespace Go.Proofs.YtjpcmmfmdoglkalGreatDoor
open Go.ChangeShapes Go.WideShapes Go.ChangeAt Go.RowKit
theorem gapP_or (s : ByteArray) (k : Nat) : gapP s k = ((decide (k < s.size) && pW (bt s k)) || brk s k) := by
  unfold gapP brk
  rw [pG_or]
  by_cases h : k < s.size
  · rw [decide_eq_true h, decide_eq_false (show ¬ s.size ≤ k by omega)]; rfl
  · rw [decide_eq_false h, decide_eq_true (show s.size ≤ k by omega)]; rfl
theorem spec_gap1 (s : ByteArray) (k : Nat) (w : World) (b : Bool) (hb : b = gapP s k) :
    Calls Tryz.prog 33 #[.string s, .int .i64 (k : Int)] w fun e w' => e = .returned (.bool b) ∧ w' = w := by
  rw [gapP_or] at hb
  cases hW : (decide (k < s.size) && pW (bt s k)) with
  | true =>
    have HW : Hid (true = (decide (k < s.size) && pW (bt s k))) := hW.symm
    have HB : Hid (b = true) := by show b = true; rw [hb, hW]; rfl
    clear hW hb
    go_enter Tryz.func33, Tryz.ntmps33
    go_wp2_with fail
    refine (spec_white1 s k _ true HW.out).mono ?_
    rintro e w1 ⟨rfl, rfl⟩
    go_wp2_with fail
    go_ret
    exact ⟨ret_bool HB.out.symm, rfl⟩
  | false =>
    have HW : Hid (false = (decide (k < s.size) && pW (bt s k))) := hW.symm
    have HB : Hid (b = brk s k) := by show b = brk s k; rw [hb, hW]; rfl
    clear hW hb
    go_enter Tryz.func33, Tryz.ntmps33
    go_wp2_with fail
    refine (spec_white1 s k _ false HW.out).mono ?_
    rintro e w1 ⟨rfl, rfl⟩
    go_wp2_with fail
    refine (spec_break s k _ b HB.out).mono ?_
    rintro e w1 ⟨rfl, rfl⟩
    go_wp2_with fail
    go_ret
    exact ⟨ret_bool rfl, rfl⟩
theorem eq3 (s : ByteArray) (p : Nat) (h : p + 3 ≤ s.size) (c : UInt8) (b : Bool) (hb : is3 s p c.toNat = b) : ((s.extract p (p + 3)).toList == [c, c, c]) = b := by
  rw [show [c, c, c] = (ByteArray.mk #[c, c, c]).toList from by rw [ByteArray.toList_eq], ← hb, is3_ext s p h, toList_beq, Bool.eq_iff_iff, decide_eq_true_eq, decide_eq_true_eq]
  constructor
  · intro h'; rw [h']
  · intro h'; exact ba_ext h'
set_option maxHeartbeats 2000000 in
theorem spec_mark (s : ByteArray) (p : Int) (w : World) (hs : s.size ≤ mx) :
    Calls Tryz.prog 67 #[.string s, .int .i64 p] w fun e w' => e = .returned (.int .i64 (markN s (cl s.size p))) ∧ w' = w := by
  have hcl := cl_le s.size p
  have hs' := hs
  unfold mx at hs'
  go_enter Tryz.func67, Tryz.ntmps67
  go_wp2_with fail
  refine (l01P_any _ _ _ hs).mono ?_
  rintro e w1 ⟨rfl, rfl⟩
  generalize hk : cl s.size p = k at *
  have HK : Hid (cl s.size p = k) := hk
  clear hk
  obtain ⟨l, hl⟩ : ∃ l, lnb s k = l := ⟨_, rfl⟩
  have hle : l ≤ k := by rw [← hl]; exact lnb_le s k
  have HLl : Hid (lnb s k = l) := hl
  have hbeg := lnb_beg s k
  rw [hl] at hbeg
  clear hl
  go_wp2_with fail
  refine (spec_line_nat s k l _ hs hcl HLl.out).mono ?_
  rintro e w2 ⟨rfl, rfl⟩
  by_cases hlk : l = k
  · have HB : Hid (beg s k = true) := hbeg.1 hlk
    subst hlk
    clear hbeg hle
    by_cases hlen : l + 3 ≤ s.size
    · have hlen' : (3 : Int) ≤ (s.size : Int) - (l : Int) := by omega
      cases hgp : gapP s (l + 3) with
      | true =>
        have HG : Hid (true = gapP s (l + 3)) := hgp.symm
        cases hi1 : is3 s l 45 with
        | true =>
          have HM : Hid (markN s l = 1) := mark_1 HB.out hlen hgp hi1
          have he := eq3 s l hlen 45 true hi1
          clear hgp hi1
          go_wp2_with fail
          refine (spec_gap1 s (l + 3) _ true HG.out).mono ?_
          rintro e w3 ⟨rfl, rfl⟩
          go_wp2_with fail
          go_ret
          exact ⟨ret_int (by rw [HK.out, HM.out]; rfl), rfl⟩
        | false =>
          have he := eq3 s l hlen 45 false hi1
          cases hi2 : is3 s l 46 with
          | true =>
            have HM : Hid (markN s l = 2) := mark_2 HB.out hlen hgp hi1 hi2
            have he2 := eq3 s l hlen 46 true hi2
            clear hgp hi1 hi2
            go_wp2_with fail
            refine (spec_gap1 s (l + 3) _ true HG.out).mono ?_
            rintro e w3 ⟨rfl, rfl⟩
            go_wp2_with fail
            go_ret
            exact ⟨ret_int (by rw [HK.out, HM.out]; rfl), rfl⟩
          | false =>
            have HM : Hid (markN s l = 0) := mark_no hi1 hi2
            have he2 := eq3 s l hlen 46 false hi2
            clear hgp hi1 hi2
            go_wp2_with fail
            refine (spec_gap1 s (l + 3) _ true HG.out).mono ?_
            rintro e w3 ⟨rfl, rfl⟩
            go_wp2_with fail
            go_ret
            exact ⟨ret_int (by rw [HK.out, HM.out]; rfl), rfl⟩
      | false =>
        have HG : Hid (false = gapP s (l + 3)) := hgp.symm
        have HM : Hid (markN s l = 0) := mark_nogap hgp
        clear hgp
        go_wp2_with fail
        refine (spec_gap1 s (l + 3) _ false HG.out).mono ?_
        rintro e w3 ⟨rfl, rfl⟩
        go_wp2_with fail
        go_ret
        exact ⟨ret_int (by rw [HK.out, HM.out]; rfl), rfl⟩
    · have HM : Hid (markN s l = 0) := mark_short (by omega)
      have hlen' : (s.size : Int) - (l : Int) < 3 := by omega
      go_wp2_with fail
      go_ret
      exact ⟨ret_int (by rw [HK.out, HM.out]; rfl), rfl⟩
  · have hbf : beg s k = false := by
      cases h : beg s k with
      | false => rfl
      | true => exact absurd (hbeg.2 h) hlk
    have HM : Hid (markN s k = 0) := mark_0 hbf
    have hlk' : ((l : Int) != (k : Int)) = true := by rw [bne_iff_ne]; omega
    clear hbeg hbf hlk
    go_wp2_with fail
    go_ret
    exact ⟨ret_int (by rw [HK.out, HM.out]; rfl), rfl⟩
end Go.Proofs.YtjpcmmfmdoglkalGreatDoor
