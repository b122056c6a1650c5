/- The contract of spec.l09Name. -/
import Derived.Test.YtmbbmibkjnlkkaaEvs
import Derived.LoopN
namespace Go.Proofs.Ytmbbmibkjnlkkaa
open Go.ChangeShapes Go.WideShapes Go.ChangeAt Go.RowKit
set_option maxHeartbeats 2000000 in
theorem name_any (s : ByteArray) (w : World) (hs : s.size ≤ mx) (b : Bool) (hb : nmOk s = b) :
    Calls Try.prog 42 #[.string s] w fun e w' => e = .returned (.bool b) ∧ w' = w := by
  have hs' : s.size < 9223372036854775807 := by unfold mx at hs; omega
  have HB : Hid (nmOk s = b) := hb
  clear hb hs
  go_enter Try.func42, Try.ntmps42
  go_wp2_with fail
  go_loop [3] (fun iv => ∃ i : Nat, i ≤ s.size ∧ iv = .int .i64 (i : Int) ∧ Hid (fwd pNm s 0 = fwd pNm s i)) (fun iv => s.size - (intOf iv).toNat)
  case atStart => exact ⟨0, Nat.zero_le _, rfl, rfl⟩
  case round =>
    obtain ⟨i, hi, rfl, HF⟩ := hrel
    by_cases hil : i < s.size
    · have hil' : (i : Int) < (s.size : Int) := by omega
      have hbt := bt_get s i hil
      cases hg : gapP s i with
      | true =>
        have cG := spec_gap1 s i w true hg.symm
        obtain rfl : false = b := by
          rw [← HB.out]
          refine (nm_no hil ?_ HF.out).symm
          unfold gapP at hg
          rw [decide_eq_false (by omega)] at hg
          unfold pNm
          rw [show pG (bt s i) = true from hg]; rfl
        clear hg HB HF hbt
        go_wp2_with fail
        refine cG.mono ?_
        rintro e w1 ⟨rfl, rfl⟩
        clear cG
        go_wp2_with fail
        go_ret
        exact ⟨rfl, rfl⟩
      | false =>
        have cG := spec_gap1 s i w false hg.symm
        have hpg : pG (bt s i) = false := by
          unfold gapP at hg
          rw [decide_eq_false (by omega)] at hg
          exact hg
        have cF := flow6 ((s[i]'hil).toNat) w (pF6 (bt s i)) (by rw [hbt])
        cases hf : pF6 (bt s i) with
        | true =>
          rw [hf] at cF
          obtain rfl : false = b := by
            rw [← HB.out]
            refine (nm_no hil ?_ HF.out).symm
            unfold pNm
            rw [hf]; simp
          clear hg HB HF hbt hpg hf
          go_wp2_with fail
          refine cG.mono ?_
          rintro e w1 ⟨rfl, rfl⟩
          clear cG
          go_wp2_with fail
          refine cF.mono ?_
          rintro e w1 ⟨rfl, rfl⟩
          clear cF
          go_wp2_with fail
          go_ret
          exact ⟨rfl, rfl⟩
        | false =>
          rw [hf] at cF
          have HF2 : Hid (fwd pNm s 0 = fwd pNm s (i + 1)) := HF.out.trans (nm_step hil (by unfold pNm; rw [hf, hpg]; rfl))
          clear hg HF hbt hpg hf
          go_wp2_with fail
          refine cG.mono ?_
          rintro e w1 ⟨rfl, rfl⟩
          clear cG
          go_wp2_with fail
          refine cF.mono ?_
          rintro e w1 ⟨rfl, rfl⟩
          clear cF
          go_wp2_with fail
          go_round
          case rel => exact ⟨i + 1, hil, by go_num, HF2⟩
          case measure => simp [intOf]; omega
    · have hil' : ¬ (i : Int) < (s.size : Int) := by omega
      have HV : Hid (decide ((s.size : Int) ≤ 60) = b) := by
        show decide ((s.size : Int) ≤ 60) = b
        rw [← HB.out]
        unfold nmOk
        rw [HF.out, fwd_end (by omega), decide_eq_true (show i = s.size by omega), Bool.true_and]
        by_cases h60 : s.size ≤ 60
        · rw [decide_eq_true h60, decide_eq_true (by omega)]
        · rw [decide_eq_false h60, decide_eq_false (by omega)]
      clear HB HF
      go_wp2_with fail
      go_ret
      exact ⟨ret_bool HV.out, rfl⟩
end Go.Proofs.Ytmbbmibkjnlkkaa
