/- Several texts in one: Snm SevA. -/
import Derived.Test.YtkdlakcmhdiojaaZqaa
import Derived.LoopN
/- The contract of spec.l09Name. -/
namespace Go.Proofs.Ytkdlakcmhdiojaa
open Go.ChangeShapes Go.WideShapes Go.ChangeAt Go.RowKit
set_option maxHeartbeats 2000000 in
theorem name_any (s : ByteArray) (w : World) (hs : s.size ≤ mx) (b : Bool) (hb : nmOk s = b) :
    Calls Try.prog 63 #[.string s] w fun e w' => e = .returned (.bool b) ∧ w' = w := by
  have hs' : s.size < 9223372036854775807 := by unfold mx at hs; omega
  have HB : Hid (nmOk s = b) := hb
  clear hb hs
  go_enter Try.func63, Try.ntmps63
  go_wp2_with fail
  go_loop [3] (fun iv => ∃ i : Nat, i ≤ s.size ∧ iv = .int .i64 (i : Int) ∧ Hid (fwd pNm s 0 = fwd pNm s i)) (fun iv => s.size - (intOf iv).toNat)
  case atStart => exact ⟨0, Nat.zero_le _, rfl, rfl⟩
  case round =>
    obtain ⟨i, hi, rfl, HF⟩ := hrel
    by_cases hil : i < s.size
    · have hil' : (i : Int) < (s.size : Int) := by omega
      have hbt := bt_get s i hil
      cases hg : gapP s i with
      | true =>
        have cG := spec_gap1 s i w true hg.symm
        obtain rfl : false = b := by
          rw [← HB.out]
          refine (nm_no hil ?_ HF.out).symm
          unfold gapP at hg
          rw [decide_eq_false (by omega)] at hg
          unfold pNm
          rw [show pG (bt s i) = true from hg]; rfl
        clear hg HB HF hbt
        go_wp2_with fail
        refine cG.mono ?_
        rintro e w1 ⟨rfl, rfl⟩
        clear cG
        go_wp2_with fail
        go_ret
        exact ⟨rfl, rfl⟩
      | false =>
        have cG := spec_gap1 s i w false hg.symm
        have hpg : pG (bt s i) = false := by
          unfold gapP at hg
          rw [decide_eq_false (by omega)] at hg
          exact hg
        have cF := flow6 ((s[i]'hil).toNat) w (pF6 (bt s i)) (by rw [hbt])
        cases hf : pF6 (bt s i) with
        | true =>
          rw [hf] at cF
          obtain rfl : false = b := by
            rw [← HB.out]
            refine (nm_no hil ?_ HF.out).symm
            unfold pNm
            rw [hf]; simp
          clear hg HB HF hbt hpg hf
          go_wp2_with fail
          refine cG.mono ?_
          rintro e w1 ⟨rfl, rfl⟩
          clear cG
          go_wp2_with fail
          refine cF.mono ?_
          rintro e w1 ⟨rfl, rfl⟩
          clear cF
          go_wp2_with fail
          go_ret
          exact ⟨rfl, rfl⟩
        | false =>
          rw [hf] at cF
          have HF2 : Hid (fwd pNm s 0 = fwd pNm s (i + 1)) := HF.out.trans (nm_step hil (by unfold pNm; rw [hf, hpg]; rfl))
          clear hg HF hbt hpg hf
          go_wp2_with fail
          refine cG.mono ?_
          rintro e w1 ⟨rfl, rfl⟩
          clear cG
          go_wp2_with fail
          refine cF.mono ?_
          rintro e w1 ⟨rfl, rfl⟩
          clear cF
          go_wp2_with fail
          go_round
          case rel => exact ⟨i + 1, hil, by go_num, HF2⟩
          case measure => simp [intOf]; omega
    · have hil' : ¬ (i : Int) < (s.size : Int) := by omega
      have HV : Hid (decide ((s.size : Int) ≤ 60) = b) := by
        show decide ((s.size : Int) ≤ 60) = b
        rw [← HB.out]
        unfold nmOk
        rw [HF.out, fwd_end (by omega), decide_eq_true (show i = s.size by omega), Bool.true_and]
        by_cases h60 : s.size ≤ 60
        · rw [decide_eq_true h60, decide_eq_true (by omega)]
        · rw [decide_eq_false h60, decide_eq_false (by omega)]
      clear HB HF
      go_wp2_with fail
      go_ret
      exact ⟨ret_bool HV.out, rfl⟩
end Go.Proofs.Ytkdlakcmhdiojaa
/- The contract of spec.EventOk: the kinds 1, 7, 9. -/
namespace Go.Proofs.Ytkdlakcmhdiojaa
open Go.ChangeShapes Go.WideShapes Go.ChangeAt Go.RowKit
set_option linter.unusedSimpArgs false in
set_option maxHeartbeats 16000000 in
theorem ev_1 (style : Int) (flag : Bool) (text anchor tag : ByteArray) (at_ code : Int) (w : World) (hsz : text.size ≤ mx ∧ anchor.size ≤ mx ∧ tag.size ≤ mx) (b : Bool) (hb : evOk ⟨1, style, flag, text, anchor, tag, at_, code⟩ = b) :
    Calls Try.prog 56 #[.agg (Ev.row ⟨1, style, flag, text, anchor, tag, at_, code⟩)] w fun e w' => e = .returned (.bool b) ∧ Below w.heap.size w w' := by
  have cT : Hid (∀ w, Calls Try.prog 63 #[.string text] w fun e w' => e = .returned (.bool (nmOk text)) ∧ w' = w) := fun w => name_any text w hsz.1 _ rfl
  have cA : Hid (∀ w, Calls Try.prog 63 #[.string anchor] w fun e w' => e = .returned (.bool (nmOk anchor)) ∧ w' = w) := fun w => name_any anchor w hsz.2.1 _ rfl
  have hz : tag.size < 9223372036854775807 := by have := hsz.2.2; unfold mx at this; omega
  unfold Ev.row
  by_cases hs1 : style < 0
  ·
    obtain rfl : b = false := by rw [← hb]; simp [evOk, evBad, evRest, loK, hiK, nodeK, hs1]
    clear hb hsz cT cA
    go_enter Try.func56, Try.ntmps56
    go_wp2_with fail
    go_ret
    exact ⟨rfl, (Below.refl _ w).alloc (Nat.le_refl _) _⟩
  · by_cases hs2 : 0 < style
    ·
      obtain rfl : b = false := by rw [← hb]; simp [evOk, evBad, evRest, loK, hiK, nodeK, hs1, hs2]
      clear hb hsz cT cA
      go_enter Try.func56, Try.ntmps56
      go_wp2_with fail
      go_ret
      exact ⟨rfl, (Below.refl _ w).alloc (Nat.le_refl _) _⟩
    ·
      cases flag with
      | true =>
        obtain rfl : b = false := by rw [← hb]; simp [evOk, evBad, evRest, loK, hiK, nodeK, hs1, hs2]
        clear hb hsz cT cA
        go_enter Try.func56, Try.ntmps56
        go_wp2_with fail
        go_ret
        exact ⟨rfl, (Below.refl _ w).alloc (Nat.le_refl _) _⟩
      | false =>
        cases ht : noB text with
        | false =>
          have ht1 : (text.toList == []) = false := ht
          have ht2 : (text.toList != []) = true := by show (!(text.toList == [])) = _; rw [ht1]; rfl
          obtain rfl : b = false := by rw [← hb]; simp [evOk, evBad, evRest, loK, hiK, nodeK, hs1, hs2, ht]
          clear hb hsz ht cT cA
          go_enter Try.func56, Try.ntmps56
          go_wp2_with fail
          go_ret
          exact ⟨rfl, (Below.refl _ w).alloc (Nat.le_refl _) _⟩
        | true =>
          have ht1 : (text.toList == []) = true := ht
          have ht2 : (text.toList != []) = false := by show (!(text.toList == [])) = _; rw [ht1]; rfl
          cases ha : noB anchor with
          | false =>
            have ha1 : (anchor.toList == []) = false := ha
            have ha2 : (anchor.toList != []) = true := by show (!(anchor.toList == [])) = _; rw [ha1]; rfl
            obtain rfl : b = false := by rw [← hb]; simp [evOk, evBad, evRest, loK, hiK, nodeK, hs1, hs2, ht, ha]
            clear hb hsz ht ha cT cA
            go_enter Try.func56, Try.ntmps56
            go_wp2_with fail
            go_ret
            exact ⟨rfl, (Below.refl _ w).alloc (Nat.le_refl _) _⟩
          | true =>
            have ha1 : (anchor.toList == []) = true := ha
            have ha2 : (anchor.toList != []) = false := by show (!(anchor.toList == [])) = _; rw [ha1]; rfl
            cases hg : noB tag with
            | false =>
              have hg1 : (tag.toList == []) = false := hg
              have hg2 : (tag.toList != []) = true := by show (!(tag.toList == [])) = _; rw [hg1]; rfl
              obtain rfl : b = false := by rw [← hb]; simp [evOk, evBad, evRest, loK, hiK, nodeK, hs1, hs2, ht, ha, hg]
              clear hb hsz ht ha hg cT cA
              go_enter Try.func56, Try.ntmps56
              go_wp2_with fail
              go_ret
              exact ⟨rfl, (Below.refl _ w).alloc (Nat.le_refl _) _⟩
            | true =>
              have hg1 : (tag.toList == []) = true := hg
              have hg2 : (tag.toList != []) = false := by show (!(tag.toList == [])) = _; rw [hg1]; rfl
              cases hm : nmOk anchor with
              | false =>
                rw [hm] at cA
                obtain rfl : b = false := by rw [← hb]; simp [evOk, evBad, evRest, loK, hiK, nodeK, hs1, hs2, ht, ha, hg, hm]
                clear hb hsz ht ha hg hm cT
                go_enter Try.func56, Try.ntmps56
                go_wp2_with fail
                refine (cA.out _).mono ?_
                rintro e w1 ⟨rfl, rfl⟩
                clear cA
                go_wp2_with fail
                go_ret
                exact ⟨rfl, (Below.refl _ w).alloc (Nat.le_refl _) _⟩
              | true =>
                rw [hm] at cA
                by_cases htg : (120 : Int) < (tag.size : Int)
                · have htn : ¬ tag.size ≤ 120 := by omega
                  obtain rfl : b = false := by rw [← hb]; simp [evOk, evBad, evRest, loK, hiK, nodeK, hs1, hs2, ht, ha, hg, hm, htn]
                  clear hb hsz ht ha hg hm cT
                  go_enter Try.func56, Try.ntmps56
                  go_wp2_with fail
                  refine (cA.out _).mono ?_
                  rintro e w1 ⟨rfl, rfl⟩
                  clear cA
                  go_wp2_with fail
                  go_ret
                  exact ⟨rfl, (Below.refl _ w).alloc (Nat.le_refl _) _⟩
                · have htn : tag.size ≤ 120 := by omega
                  by_cases hc : code = 0
                  · have hc1 : (code == 0) = true := by rw [beq_iff_eq]; exact hc
                    by_cases hat : at_ = 0
                    · have hat1 : (at_ == 0) = true := by rw [beq_iff_eq]; exact hat
                      obtain rfl : b = true := by rw [← hb]; simp [evOk, evBad, evRest, loK, hiK, nodeK, hs1, hs2, ht, ha, hg, hm, htn, hc, hat]
                      clear hb hsz ht ha hg hm cT
                      go_enter Try.func56, Try.ntmps56
                      go_wp2_with fail
                      refine (cA.out _).mono ?_
                      rintro e w1 ⟨rfl, rfl⟩
                      clear cA
                      go_wp2_with fail
                      go_ret
                      exact ⟨rfl, (Below.refl _ w).alloc (Nat.le_refl _) _⟩
                    · have hat1 : (at_ == 0) = false := by rw [beq_eq_false_iff_ne]; exact hat
                      obtain rfl : b = false := by rw [← hb]; simp [evOk, evBad, evRest, loK, hiK, nodeK, hs1, hs2, ht, ha, hg, hm, htn, hc, hat]
                      clear hb hsz ht ha hg hm cT
                      go_enter Try.func56, Try.ntmps56
                      go_wp2_with fail
                      refine (cA.out _).mono ?_
                      rintro e w1 ⟨rfl, rfl⟩
                      clear cA
                      go_wp2_with fail
                      go_ret
                      exact ⟨rfl, (Below.refl _ w).alloc (Nat.le_refl _) _⟩
                  · have hc1 : (code == 0) = false := by rw [beq_eq_false_iff_ne]; exact hc
                    obtain rfl : b = false := by rw [← hb]; simp [evOk, evBad, evRest, loK, hiK, nodeK, hs1, hs2, ht, ha, hg, hm, htn, hc]
                    clear hb hsz ht ha hg hm cT
                    go_enter Try.func56, Try.ntmps56
                    go_wp2_with fail
                    refine (cA.out _).mono ?_
                    rintro e w1 ⟨rfl, rfl⟩
                    clear cA
                    go_wp2_with fail
                    go_ret
                    exact ⟨rfl, (Below.refl _ w).alloc (Nat.le_refl _) _⟩
set_option linter.unusedSimpArgs false in
set_option maxHeartbeats 16000000 in
theorem ev_7 (style : Int) (flag : Bool) (text anchor tag : ByteArray) (at_ code : Int) (w : World) (hsz : text.size ≤ mx ∧ anchor.size ≤ mx ∧ tag.size ≤ mx) (b : Bool) (hb : evOk ⟨7, style, flag, text, anchor, tag, at_, code⟩ = b) :
    Calls Try.prog 56 #[.agg (Ev.row ⟨7, style, flag, text, anchor, tag, at_, code⟩)] w fun e w' => e = .returned (.bool b) ∧ Below w.heap.size w w' := by
  have cT : Hid (∀ w, Calls Try.prog 63 #[.string text] w fun e w' => e = .returned (.bool (nmOk text)) ∧ w' = w) := fun w => name_any text w hsz.1 _ rfl
  have cA : Hid (∀ w, Calls Try.prog 63 #[.string anchor] w fun e w' => e = .returned (.bool (nmOk anchor)) ∧ w' = w) := fun w => name_any anchor w hsz.2.1 _ rfl
  have hz : tag.size < 9223372036854775807 := by have := hsz.2.2; unfold mx at this; omega
  unfold Ev.row
  by_cases hs1 : style < 0
  ·
    obtain rfl : b = false := by rw [← hb]; simp [evOk, evBad, evRest, loK, hiK, nodeK, hs1]
    clear hb hsz cT cA
    go_enter Try.func56, Try.ntmps56
    go_wp2_with fail
    go_ret
    exact ⟨rfl, (Below.refl _ w).alloc (Nat.le_refl _) _⟩
  · by_cases hs2 : 0 < style
    ·
      obtain rfl : b = false := by rw [← hb]; simp [evOk, evBad, evRest, loK, hiK, nodeK, hs1, hs2]
      clear hb hsz cT cA
      go_enter Try.func56, Try.ntmps56
      go_wp2_with fail
      go_ret
      exact ⟨rfl, (Below.refl _ w).alloc (Nat.le_refl _) _⟩
    ·
      cases flag with
      | true =>
        obtain rfl : b = false := by rw [← hb]; simp [evOk, evBad, evRest, loK, hiK, nodeK, hs1, hs2]
        clear hb hsz cT cA
        go_enter Try.func56, Try.ntmps56
        go_wp2_with fail
        go_ret
        exact ⟨rfl, (Below.refl _ w).alloc (Nat.le_refl _) _⟩
      | false =>
        cases ht : noB text with
        | false =>
          have ht1 : (text.toList == []) = false := ht
          have ht2 : (text.toList != []) = true := by show (!(text.toList == [])) = _; rw [ht1]; rfl
          obtain rfl : b = false := by rw [← hb]; simp [evOk, evBad, evRest, loK, hiK, nodeK, hs1, hs2, ht]
          clear hb hsz ht cT cA
          go_enter Try.func56, Try.ntmps56
          go_wp2_with fail
          go_ret
          exact ⟨rfl, (Below.refl _ w).alloc (Nat.le_refl _) _⟩
        | true =>
          have ht1 : (text.toList == []) = true := ht
          have ht2 : (text.toList != []) = false := by show (!(text.toList == [])) = _; rw [ht1]; rfl
          cases ha : noB anchor with
          | false =>
            have ha1 : (anchor.toList == []) = false := ha
            have ha2 : (anchor.toList != []) = true := by show (!(anchor.toList == [])) = _; rw [ha1]; rfl
            obtain rfl : b = false := by rw [← hb]; simp [evOk, evBad, evRest, loK, hiK, nodeK, hs1, hs2, ht, ha]
            clear hb hsz ht ha cT cA
            go_enter Try.func56, Try.ntmps56
            go_wp2_with fail
            go_ret
            exact ⟨rfl, (Below.refl _ w).alloc (Nat.le_refl _) _⟩
          | true =>
            have ha1 : (anchor.toList == []) = true := ha
            have ha2 : (anchor.toList != []) = false := by show (!(anchor.toList == [])) = _; rw [ha1]; rfl
            cases hg : noB tag with
            | false =>
              have hg1 : (tag.toList == []) = false := hg
              have hg2 : (tag.toList != []) = true := by show (!(tag.toList == [])) = _; rw [hg1]; rfl
              obtain rfl : b = false := by rw [← hb]; simp [evOk, evBad, evRest, loK, hiK, nodeK, hs1, hs2, ht, ha, hg]
              clear hb hsz ht ha hg cT cA
              go_enter Try.func56, Try.ntmps56
              go_wp2_with fail
              go_ret
              exact ⟨rfl, (Below.refl _ w).alloc (Nat.le_refl _) _⟩
            | true =>
              have hg1 : (tag.toList == []) = true := hg
              have hg2 : (tag.toList != []) = false := by show (!(tag.toList == [])) = _; rw [hg1]; rfl
              cases hm : nmOk anchor with
              | false =>
                rw [hm] at cA
                obtain rfl : b = false := by rw [← hb]; simp [evOk, evBad, evRest, loK, hiK, nodeK, hs1, hs2, ht, ha, hg, hm]
                clear hb hsz ht ha hg hm cT
                go_enter Try.func56, Try.ntmps56
                go_wp2_with fail
                refine (cA.out _).mono ?_
                rintro e w1 ⟨rfl, rfl⟩
                clear cA
                go_wp2_with fail
                go_ret
                exact ⟨rfl, (Below.refl _ w).alloc (Nat.le_refl _) _⟩
              | true =>
                rw [hm] at cA
                by_cases htg : (120 : Int) < (tag.size : Int)
                · have htn : ¬ tag.size ≤ 120 := by omega
                  obtain rfl : b = false := by rw [← hb]; simp [evOk, evBad, evRest, loK, hiK, nodeK, hs1, hs2, ht, ha, hg, hm, htn]
                  clear hb hsz ht ha hg hm cT
                  go_enter Try.func56, Try.ntmps56
                  go_wp2_with fail
                  refine (cA.out _).mono ?_
                  rintro e w1 ⟨rfl, rfl⟩
                  clear cA
                  go_wp2_with fail
                  go_ret
                  exact ⟨rfl, (Below.refl _ w).alloc (Nat.le_refl _) _⟩
                · have htn : tag.size ≤ 120 := by omega
                  by_cases hc : code = 0
                  · have hc1 : (code == 0) = true := by rw [beq_iff_eq]; exact hc
                    by_cases hat : at_ = 0
                    · have hat1 : (at_ == 0) = true := by rw [beq_iff_eq]; exact hat
                      obtain rfl : b = true := by rw [← hb]; simp [evOk, evBad, evRest, loK, hiK, nodeK, hs1, hs2, ht, ha, hg, hm, htn, hc, hat]
                      clear hb hsz ht ha hg hm cT
                      go_enter Try.func56, Try.ntmps56
                      go_wp2_with fail
                      refine (cA.out _).mono ?_
                      rintro e w1 ⟨rfl, rfl⟩
                      clear cA
                      go_wp2_with fail
                      go_ret
                      exact ⟨rfl, (Below.refl _ w).alloc (Nat.le_refl _) _⟩
                    · have hat1 : (at_ == 0) = false := by rw [beq_eq_false_iff_ne]; exact hat
                      obtain rfl : b = false := by rw [← hb]; simp [evOk, evBad, evRest, loK, hiK, nodeK, hs1, hs2, ht, ha, hg, hm, htn, hc, hat]
                      clear hb hsz ht ha hg hm cT
                      go_enter Try.func56, Try.ntmps56
                      go_wp2_with fail
                      refine (cA.out _).mono ?_
                      rintro e w1 ⟨rfl, rfl⟩
                      clear cA
                      go_wp2_with fail
                      go_ret
                      exact ⟨rfl, (Below.refl _ w).alloc (Nat.le_refl _) _⟩
                  · have hc1 : (code == 0) = false := by rw [beq_eq_false_iff_ne]; exact hc
                    obtain rfl : b = false := by rw [← hb]; simp [evOk, evBad, evRest, loK, hiK, nodeK, hs1, hs2, ht, ha, hg, hm, htn, hc]
                    clear hb hsz ht ha hg hm cT
                    go_enter Try.func56, Try.ntmps56
                    go_wp2_with fail
                    refine (cA.out _).mono ?_
                    rintro e w1 ⟨rfl, rfl⟩
                    clear cA
                    go_wp2_with fail
                    go_ret
                    exact ⟨rfl, (Below.refl _ w).alloc (Nat.le_refl _) _⟩
set_option linter.unusedSimpArgs false in
set_option maxHeartbeats 16000000 in
theorem ev_9 (style : Int) (flag : Bool) (text anchor tag : ByteArray) (at_ code : Int) (w : World) (hsz : text.size ≤ mx ∧ anchor.size ≤ mx ∧ tag.size ≤ mx) (b : Bool) (hb : evOk ⟨9, style, flag, text, anchor, tag, at_, code⟩ = b) :
    Calls Try.prog 56 #[.agg (Ev.row ⟨9, style, flag, text, anchor, tag, at_, code⟩)] w fun e w' => e = .returned (.bool b) ∧ Below w.heap.size w w' := by
  have cT : Hid (∀ w, Calls Try.prog 63 #[.string text] w fun e w' => e = .returned (.bool (nmOk text)) ∧ w' = w) := fun w => name_any text w hsz.1 _ rfl
  have cA : Hid (∀ w, Calls Try.prog 63 #[.string anchor] w fun e w' => e = .returned (.bool (nmOk anchor)) ∧ w' = w) := fun w => name_any anchor w hsz.2.1 _ rfl
  have hz : tag.size < 9223372036854775807 := by have := hsz.2.2; unfold mx at this; omega
  unfold Ev.row
  by_cases hs1 : style < 0
  ·
    obtain rfl : b = false := by rw [← hb]; simp [evOk, evBad, evRest, loK, hiK, nodeK, hs1]
    clear hb hsz cT cA
    go_enter Try.func56, Try.ntmps56
    go_wp2_with fail
    go_ret
    exact ⟨rfl, (Below.refl _ w).alloc (Nat.le_refl _) _⟩
  · by_cases hs2 : 0 < style
    ·
      obtain rfl : b = false := by rw [← hb]; simp [evOk, evBad, evRest, loK, hiK, nodeK, hs1, hs2]
      clear hb hsz cT cA
      go_enter Try.func56, Try.ntmps56
      go_wp2_with fail
      go_ret
      exact ⟨rfl, (Below.refl _ w).alloc (Nat.le_refl _) _⟩
    ·
      cases flag with
      | true =>
        obtain rfl : b = false := by rw [← hb]; simp [evOk, evBad, evRest, loK, hiK, nodeK, hs1, hs2]
        clear hb hsz cT cA
        go_enter Try.func56, Try.ntmps56
        go_wp2_with fail
        go_ret
        exact ⟨rfl, (Below.refl _ w).alloc (Nat.le_refl _) _⟩
      | false =>
        cases ht : noB text with
        | false =>
          have ht1 : (text.toList == []) = false := ht
          have ht2 : (text.toList != []) = true := by show (!(text.toList == [])) = _; rw [ht1]; rfl
          obtain rfl : b = false := by rw [← hb]; simp [evOk, evBad, evRest, loK, hiK, nodeK, hs1, hs2, ht]
          clear hb hsz ht cT cA
          go_enter Try.func56, Try.ntmps56
          go_wp2_with fail
          go_ret
          exact ⟨rfl, (Below.refl _ w).alloc (Nat.le_refl _) _⟩
        | true =>
          have ht1 : (text.toList == []) = true := ht
          have ht2 : (text.toList != []) = false := by show (!(text.toList == [])) = _; rw [ht1]; rfl
          cases ha : noB anchor with
          | false =>
            have ha1 : (anchor.toList == []) = false := ha
            have ha2 : (anchor.toList != []) = true := by show (!(anchor.toList == [])) = _; rw [ha1]; rfl
            obtain rfl : b = false := by rw [← hb]; simp [evOk, evBad, evRest, loK, hiK, nodeK, hs1, hs2, ht, ha]
            clear hb hsz ht ha cT cA
            go_enter Try.func56, Try.ntmps56
            go_wp2_with fail
            go_ret
            exact ⟨rfl, (Below.refl _ w).alloc (Nat.le_refl _) _⟩
          | true =>
            have ha1 : (anchor.toList == []) = true := ha
            have ha2 : (anchor.toList != []) = false := by show (!(anchor.toList == [])) = _; rw [ha1]; rfl
            cases hg : noB tag with
            | false =>
              have hg1 : (tag.toList == []) = false := hg
              have hg2 : (tag.toList != []) = true := by show (!(tag.toList == [])) = _; rw [hg1]; rfl
              obtain rfl : b = false := by rw [← hb]; simp [evOk, evBad, evRest, loK, hiK, nodeK, hs1, hs2, ht, ha, hg]
              clear hb hsz ht ha hg cT cA
              go_enter Try.func56, Try.ntmps56
              go_wp2_with fail
              go_ret
              exact ⟨rfl, (Below.refl _ w).alloc (Nat.le_refl _) _⟩
            | true =>
              have hg1 : (tag.toList == []) = true := hg
              have hg2 : (tag.toList != []) = false := by show (!(tag.toList == [])) = _; rw [hg1]; rfl
              cases hm : nmOk anchor with
              | false =>
                rw [hm] at cA
                obtain rfl : b = false := by rw [← hb]; simp [evOk, evBad, evRest, loK, hiK, nodeK, hs1, hs2, ht, ha, hg, hm]
                clear hb hsz ht ha hg hm cT
                go_enter Try.func56, Try.ntmps56
                go_wp2_with fail
                refine (cA.out _).mono ?_
                rintro e w1 ⟨rfl, rfl⟩
                clear cA
                go_wp2_with fail
                go_ret
                exact ⟨rfl, (Below.refl _ w).alloc (Nat.le_refl _) _⟩
              | true =>
                rw [hm] at cA
                by_cases htg : (120 : Int) < (tag.size : Int)
                · have htn : ¬ tag.size ≤ 120 := by omega
                  obtain rfl : b = false := by rw [← hb]; simp [evOk, evBad, evRest, loK, hiK, nodeK, hs1, hs2, ht, ha, hg, hm, htn]
                  clear hb hsz ht ha hg hm cT
                  go_enter Try.func56, Try.ntmps56
                  go_wp2_with fail
                  refine (cA.out _).mono ?_
                  rintro e w1 ⟨rfl, rfl⟩
                  clear cA
                  go_wp2_with fail
                  go_ret
                  exact ⟨rfl, (Below.refl _ w).alloc (Nat.le_refl _) _⟩
                · have htn : tag.size ≤ 120 := by omega
                  by_cases hc : code = 0
                  · have hc1 : (code == 0) = true := by rw [beq_iff_eq]; exact hc
                    by_cases hat : at_ = 0
                    · have hat1 : (at_ == 0) = true := by rw [beq_iff_eq]; exact hat
                      obtain rfl : b = true := by rw [← hb]; simp [evOk, evBad, evRest, loK, hiK, nodeK, hs1, hs2, ht, ha, hg, hm, htn, hc, hat]
                      clear hb hsz ht ha hg hm cT
                      go_enter Try.func56, Try.ntmps56
                      go_wp2_with fail
                      refine (cA.out _).mono ?_
                      rintro e w1 ⟨rfl, rfl⟩
                      clear cA
                      go_wp2_with fail
                      go_ret
                      exact ⟨rfl, (Below.refl _ w).alloc (Nat.le_refl _) _⟩
                    · have hat1 : (at_ == 0) = false := by rw [beq_eq_false_iff_ne]; exact hat
                      obtain rfl : b = false := by rw [← hb]; simp [evOk, evBad, evRest, loK, hiK, nodeK, hs1, hs2, ht, ha, hg, hm, htn, hc, hat]
                      clear hb hsz ht ha hg hm cT
                      go_enter Try.func56, Try.ntmps56
                      go_wp2_with fail
                      refine (cA.out _).mono ?_
                      rintro e w1 ⟨rfl, rfl⟩
                      clear cA
                      go_wp2_with fail
                      go_ret
                      exact ⟨rfl, (Below.refl _ w).alloc (Nat.le_refl _) _⟩
                  · have hc1 : (code == 0) = false := by rw [beq_eq_false_iff_ne]; exact hc
                    obtain rfl : b = false := by rw [← hb]; simp [evOk, evBad, evRest, loK, hiK, nodeK, hs1, hs2, ht, ha, hg, hm, htn, hc]
                    clear hb hsz ht ha hg hm cT
                    go_enter Try.func56, Try.ntmps56
                    go_wp2_with fail
                    refine (cA.out _).mono ?_
                    rintro e w1 ⟨rfl, rfl⟩
                    clear cA
                    go_wp2_with fail
                    go_ret
                    exact ⟨rfl, (Below.refl _ w).alloc (Nat.le_refl _) _⟩
end Go.Proofs.Ytkdlakcmhdiojaa
