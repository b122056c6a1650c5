/- The contract of spec.EventOk: the kinds 5. -/
import Derived.Test.YtmbbmibkjnlkkaaZpc
namespace Go.Proofs.Ytmbbmibkjnlkkaa
open Go.ChangeShapes Go.WideShapes Go.ChangeAt Go.RowKit
set_option linter.unusedSimpArgs false in
set_option maxHeartbeats 16000000 in
theorem ev_5 (style : Int) (flag : Bool) (text anchor tag : ByteArray) (at_ code : Int) (w : World) (hsz : text.size ≤ mx ∧ anchor.size ≤ mx ∧ tag.size ≤ mx) (b : Bool) (hb : evOk ⟨5, style, flag, text, anchor, tag, at_, code⟩ = b) :
    Calls Try.prog 29 #[.agg (Ev.row ⟨5, style, flag, text, anchor, tag, at_, code⟩)] w fun e w' => e = .returned (.bool b) ∧ Below w.heap.size w w' := by
  have cT : Hid (∀ w, Calls Try.prog 42 #[.string text] w fun e w' => e = .returned (.bool (nmOk text)) ∧ w' = w) := fun w => name_any text w hsz.1 _ rfl
  have cA : Hid (∀ w, Calls Try.prog 42 #[.string anchor] w fun e w' => e = .returned (.bool (nmOk anchor)) ∧ w' = w) := fun w => name_any anchor w hsz.2.1 _ rfl
  have hz : tag.size < 9223372036854775807 := by have := hsz.2.2; unfold mx at this; omega
  unfold Ev.row
  by_cases hs1 : style < 1
  ·
    obtain rfl : b = false := by rw [← hb]; simp [evOk, evBad, evRest, loK, hiK, nodeK, hs1]
    clear hb hsz cT cA
    go_enter Try.func29, Try.ntmps29
    go_wp2_with fail
    go_ret
    exact ⟨rfl, (Below.refl _ w).alloc (Nat.le_refl _) _⟩
  · by_cases hs2 : 5 < style
    ·
      obtain rfl : b = false := by rw [← hb]; simp [evOk, evBad, evRest, loK, hiK, nodeK, hs1, hs2]
      clear hb hsz cT cA
      go_enter Try.func29, Try.ntmps29
      go_wp2_with fail
      go_ret
      exact ⟨rfl, (Below.refl _ w).alloc (Nat.le_refl _) _⟩
    ·
      cases flag with
      | true =>
        obtain rfl : b = false := by rw [← hb]; simp [evOk, evBad, evRest, loK, hiK, nodeK, hs1, hs2]
        clear hb hsz cT cA
        go_enter Try.func29, Try.ntmps29
        go_wp2_with fail
        go_ret
        exact ⟨rfl, (Below.refl _ w).alloc (Nat.le_refl _) _⟩
      | false =>
        cases ht : noB text with
        | false =>
          have ht1 : (text.toList == []) = false := ht
          have ht2 : (text.toList != []) = true := by show (!(text.toList == [])) = _; rw [ht1]; rfl
          cases ha : noB anchor with
          | false =>
            have ha1 : (anchor.toList == []) = false := ha
            have ha2 : (anchor.toList != []) = true := by show (!(anchor.toList == [])) = _; rw [ha1]; rfl
            cases hm : nmOk anchor with
            | false =>
              rw [hm] at cA
              obtain rfl : b = false := by rw [← hb]; simp [evOk, evBad, evRest, loK, hiK, nodeK, hs1, hs2, ht, ha, hm]
              clear hb hsz ht ha hm cT
              go_enter Try.func29, Try.ntmps29
              go_wp2_with fail
              refine (cA.out _).mono ?_
              rintro e w1 ⟨rfl, rfl⟩
              clear cA
              go_wp2_with fail
              go_ret
              exact ⟨rfl, (Below.refl _ w).alloc (Nat.le_refl _) _⟩
            | true =>
              rw [hm] at cA
              by_cases htg : (120 : Int) < (tag.size : Int)
              · have htn : ¬ tag.size ≤ 120 := by omega
                obtain rfl : b = false := by rw [← hb]; simp [evOk, evBad, evRest, loK, hiK, nodeK, hs1, hs2, ht, ha, hm, htn]
                clear hb hsz ht ha hm cT
                go_enter Try.func29, Try.ntmps29
                go_wp2_with fail
                refine (cA.out _).mono ?_
                rintro e w1 ⟨rfl, rfl⟩
                clear cA
                go_wp2_with fail
                go_ret
                exact ⟨rfl, (Below.refl _ w).alloc (Nat.le_refl _) _⟩
              · have htn : tag.size ≤ 120 := by omega
                by_cases hc : code = 0
                · have hc1 : (code == 0) = true := by rw [beq_iff_eq]; exact hc
                  by_cases hat : at_ = 0
                  · have hat1 : (at_ == 0) = true := by rw [beq_iff_eq]; exact hat
                    obtain rfl : b = true := by rw [← hb]; simp [evOk, evBad, evRest, loK, hiK, nodeK, hs1, hs2, ht, ha, hm, htn, hc, hat]
                    clear hb hsz ht ha hm cT
                    go_enter Try.func29, Try.ntmps29
                    go_wp2_with fail
                    refine (cA.out _).mono ?_
                    rintro e w1 ⟨rfl, rfl⟩
                    clear cA
                    go_wp2_with fail
                    go_ret
                    exact ⟨rfl, (Below.refl _ w).alloc (Nat.le_refl _) _⟩
                  · have hat1 : (at_ == 0) = false := by rw [beq_eq_false_iff_ne]; exact hat
                    obtain rfl : b = false := by rw [← hb]; simp [evOk, evBad, evRest, loK, hiK, nodeK, hs1, hs2, ht, ha, hm, htn, hc, hat]
                    clear hb hsz ht ha hm cT
                    go_enter Try.func29, Try.ntmps29
                    go_wp2_with fail
                    refine (cA.out _).mono ?_
                    rintro e w1 ⟨rfl, rfl⟩
                    clear cA
                    go_wp2_with fail
                    go_ret
                    exact ⟨rfl, (Below.refl _ w).alloc (Nat.le_refl _) _⟩
                · have hc1 : (code == 0) = false := by rw [beq_eq_false_iff_ne]; exact hc
                  obtain rfl : b = false := by rw [← hb]; simp [evOk, evBad, evRest, loK, hiK, nodeK, hs1, hs2, ht, ha, hm, htn, hc]
                  clear hb hsz ht ha hm cT
                  go_enter Try.func29, Try.ntmps29
                  go_wp2_with fail
                  refine (cA.out _).mono ?_
                  rintro e w1 ⟨rfl, rfl⟩
                  clear cA
                  go_wp2_with fail
                  go_ret
                  exact ⟨rfl, (Below.refl _ w).alloc (Nat.le_refl _) _⟩
          | true =>
            have ha1 : (anchor.toList == []) = true := ha
            have ha2 : (anchor.toList != []) = false := by show (!(anchor.toList == [])) = _; rw [ha1]; rfl
            cases hg : noB tag with
            | false =>
              have hg1 : (tag.toList == []) = false := hg
              have hg2 : (tag.toList != []) = true := by show (!(tag.toList == [])) = _; rw [hg1]; rfl
              cases hm : nmOk anchor with
              | false =>
                rw [hm] at cA
                obtain rfl : b = false := by rw [← hb]; simp [evOk, evBad, evRest, loK, hiK, nodeK, hs1, hs2, ht, ha, hg, hm]
                clear hb hsz ht ha hg hm cT
                go_enter Try.func29, Try.ntmps29
                go_wp2_with fail
                refine (cA.out _).mono ?_
                rintro e w1 ⟨rfl, rfl⟩
                clear cA
                go_wp2_with fail
                go_ret
                exact ⟨rfl, (Below.refl _ w).alloc (Nat.le_refl _) _⟩
              | true =>
                rw [hm] at cA
                by_cases htg : (120 : Int) < (tag.size : Int)
                · have htn : ¬ tag.size ≤ 120 := by omega
                  obtain rfl : b = false := by rw [← hb]; simp [evOk, evBad, evRest, loK, hiK, nodeK, hs1, hs2, ht, ha, hg, hm, htn]
                  clear hb hsz ht ha hg hm cT
                  go_enter Try.func29, Try.ntmps29
                  go_wp2_with fail
                  refine (cA.out _).mono ?_
                  rintro e w1 ⟨rfl, rfl⟩
                  clear cA
                  go_wp2_with fail
                  go_ret
                  exact ⟨rfl, (Below.refl _ w).alloc (Nat.le_refl _) _⟩
                · have htn : tag.size ≤ 120 := by omega
                  by_cases hc : code = 0
                  · have hc1 : (code == 0) = true := by rw [beq_iff_eq]; exact hc
                    by_cases hat : at_ = 0
                    · have hat1 : (at_ == 0) = true := by rw [beq_iff_eq]; exact hat
                      obtain rfl : b = true := by rw [← hb]; simp [evOk, evBad, evRest, loK, hiK, nodeK, hs1, hs2, ht, ha, hg, hm, htn, hc, hat]
                      clear hb hsz ht ha hg hm cT
                      go_enter Try.func29, Try.ntmps29
                      go_wp2_with fail
                      refine (cA.out _).mono ?_
                      rintro e w1 ⟨rfl, rfl⟩
                      clear cA
                      go_wp2_with fail
                      go_ret
                      exact ⟨rfl, (Below.refl _ w).alloc (Nat.le_refl _) _⟩
                    · have hat1 : (at_ == 0) = false := by rw [beq_eq_false_iff_ne]; exact hat
                      obtain rfl : b = false := by rw [← hb]; simp [evOk, evBad, evRest, loK, hiK, nodeK, hs1, hs2, ht, ha, hg, hm, htn, hc, hat]
                      clear hb hsz ht ha hg hm cT
                      go_enter Try.func29, Try.ntmps29
                      go_wp2_with fail
                      refine (cA.out _).mono ?_
                      rintro e w1 ⟨rfl, rfl⟩
                      clear cA
                      go_wp2_with fail
                      go_ret
                      exact ⟨rfl, (Below.refl _ w).alloc (Nat.le_refl _) _⟩
                  · have hc1 : (code == 0) = false := by rw [beq_eq_false_iff_ne]; exact hc
                    obtain rfl : b = false := by rw [← hb]; simp [evOk, evBad, evRest, loK, hiK, nodeK, hs1, hs2, ht, ha, hg, hm, htn, hc]
                    clear hb hsz ht ha hg hm cT
                    go_enter Try.func29, Try.ntmps29
                    go_wp2_with fail
                    refine (cA.out _).mono ?_
                    rintro e w1 ⟨rfl, rfl⟩
                    clear cA
                    go_wp2_with fail
                    go_ret
                    exact ⟨rfl, (Below.refl _ w).alloc (Nat.le_refl _) _⟩
            | true =>
              have hg1 : (tag.toList == []) = true := hg
              have hg2 : (tag.toList != []) = false := by show (!(tag.toList == [])) = _; rw [hg1]; rfl
              cases hm : nmOk anchor with
              | false =>
                rw [hm] at cA
                obtain rfl : b = false := by rw [← hb]; simp [evOk, evBad, evRest, loK, hiK, nodeK, hs1, hs2, ht, ha, hg, hm]
                clear hb hsz ht ha hg hm cT
                go_enter Try.func29, Try.ntmps29
                go_wp2_with fail
                refine (cA.out _).mono ?_
                rintro e w1 ⟨rfl, rfl⟩
                clear cA
                go_wp2_with fail
                go_ret
                exact ⟨rfl, (Below.refl _ w).alloc (Nat.le_refl _) _⟩
              | true =>
                rw [hm] at cA
                by_cases htg : (120 : Int) < (tag.size : Int)
                · have htn : ¬ tag.size ≤ 120 := by omega
                  obtain rfl : b = false := by rw [← hb]; simp [evOk, evBad, evRest, loK, hiK, nodeK, hs1, hs2, ht, ha, hg, hm, htn]
                  clear hb hsz ht ha hg hm cT
                  go_enter Try.func29, Try.ntmps29
                  go_wp2_with fail
                  refine (cA.out _).mono ?_
                  rintro e w1 ⟨rfl, rfl⟩
                  clear cA
                  go_wp2_with fail
                  go_ret
                  exact ⟨rfl, (Below.refl _ w).alloc (Nat.le_refl _) _⟩
                · have htn : tag.size ≤ 120 := by omega
                  by_cases hc : code = 0
                  · have hc1 : (code == 0) = true := by rw [beq_iff_eq]; exact hc
                    by_cases hat : at_ = 0
                    · have hat1 : (at_ == 0) = true := by rw [beq_iff_eq]; exact hat
                      obtain rfl : b = true := by rw [← hb]; simp [evOk, evBad, evRest, loK, hiK, nodeK, hs1, hs2, ht, ha, hg, hm, htn, hc, hat]
                      clear hb hsz ht ha hg hm cT
                      go_enter Try.func29, Try.ntmps29
                      go_wp2_with fail
                      refine (cA.out _).mono ?_
                      rintro e w1 ⟨rfl, rfl⟩
                      clear cA
                      go_wp2_with fail
                      go_ret
                      exact ⟨rfl, (Below.refl _ w).alloc (Nat.le_refl _) _⟩
                    · have hat1 : (at_ == 0) = false := by rw [beq_eq_false_iff_ne]; exact hat
                      obtain rfl : b = false := by rw [← hb]; simp [evOk, evBad, evRest, loK, hiK, nodeK, hs1, hs2, ht, ha, hg, hm, htn, hc, hat]
                      clear hb hsz ht ha hg hm cT
                      go_enter Try.func29, Try.ntmps29
                      go_wp2_with fail
                      refine (cA.out _).mono ?_
                      rintro e w1 ⟨rfl, rfl⟩
                      clear cA
                      go_wp2_with fail
                      go_ret
                      exact ⟨rfl, (Below.refl _ w).alloc (Nat.le_refl _) _⟩
                  · have hc1 : (code == 0) = false := by rw [beq_eq_false_iff_ne]; exact hc
                    obtain rfl : b = false := by rw [← hb]; simp [evOk, evBad, evRest, loK, hiK, nodeK, hs1, hs2, ht, ha, hg, hm, htn, hc]
                    clear hb hsz ht ha hg hm cT
                    go_enter Try.func29, Try.ntmps29
                    go_wp2_with fail
                    refine (cA.out _).mono ?_
                    rintro e w1 ⟨rfl, rfl⟩
                    clear cA
                    go_wp2_with fail
                    go_ret
                    exact ⟨rfl, (Below.refl _ w).alloc (Nat.le_refl _) _⟩
        | true =>
          have ht1 : (text.toList == []) = true := ht
          have ht2 : (text.toList != []) = false := by show (!(text.toList == [])) = _; rw [ht1]; rfl
          cases ha : noB anchor with
          | false =>
            have ha1 : (anchor.toList == []) = false := ha
            have ha2 : (anchor.toList != []) = true := by show (!(anchor.toList == [])) = _; rw [ha1]; rfl
            cases hm : nmOk anchor with
            | false =>
              rw [hm] at cA
              obtain rfl : b = false := by rw [← hb]; simp [evOk, evBad, evRest, loK, hiK, nodeK, hs1, hs2, ht, ha, hm]
              clear hb hsz ht ha hm cT
              go_enter Try.func29, Try.ntmps29
              go_wp2_with fail
              refine (cA.out _).mono ?_
              rintro e w1 ⟨rfl, rfl⟩
              clear cA
              go_wp2_with fail
              go_ret
              exact ⟨rfl, (Below.refl _ w).alloc (Nat.le_refl _) _⟩
            | true =>
              rw [hm] at cA
              by_cases htg : (120 : Int) < (tag.size : Int)
              · have htn : ¬ tag.size ≤ 120 := by omega
                obtain rfl : b = false := by rw [← hb]; simp [evOk, evBad, evRest, loK, hiK, nodeK, hs1, hs2, ht, ha, hm, htn]
                clear hb hsz ht ha hm cT
                go_enter Try.func29, Try.ntmps29
                go_wp2_with fail
                refine (cA.out _).mono ?_
                rintro e w1 ⟨rfl, rfl⟩
                clear cA
                go_wp2_with fail
                go_ret
                exact ⟨rfl, (Below.refl _ w).alloc (Nat.le_refl _) _⟩
              · have htn : tag.size ≤ 120 := by omega
                by_cases hc : code = 0
                · have hc1 : (code == 0) = true := by rw [beq_iff_eq]; exact hc
                  by_cases hat : at_ = 0
                  · have hat1 : (at_ == 0) = true := by rw [beq_iff_eq]; exact hat
                    obtain rfl : b = true := by rw [← hb]; simp [evOk, evBad, evRest, loK, hiK, nodeK, hs1, hs2, ht, ha, hm, htn, hc, hat]
                    clear hb hsz ht ha hm cT
                    go_enter Try.func29, Try.ntmps29
                    go_wp2_with fail
                    refine (cA.out _).mono ?_
                    rintro e w1 ⟨rfl, rfl⟩
                    clear cA
                    go_wp2_with fail
                    go_ret
                    exact ⟨rfl, (Below.refl _ w).alloc (Nat.le_refl _) _⟩
                  · have hat1 : (at_ == 0) = false := by rw [beq_eq_false_iff_ne]; exact hat
                    obtain rfl : b = false := by rw [← hb]; simp [evOk, evBad, evRest, loK, hiK, nodeK, hs1, hs2, ht, ha, hm, htn, hc, hat]
                    clear hb hsz ht ha hm cT
                    go_enter Try.func29, Try.ntmps29
                    go_wp2_with fail
                    refine (cA.out _).mono ?_
                    rintro e w1 ⟨rfl, rfl⟩
                    clear cA
                    go_wp2_with fail
                    go_ret
                    exact ⟨rfl, (Below.refl _ w).alloc (Nat.le_refl _) _⟩
                · have hc1 : (code == 0) = false := by rw [beq_eq_false_iff_ne]; exact hc
                  obtain rfl : b = false := by rw [← hb]; simp [evOk, evBad, evRest, loK, hiK, nodeK, hs1, hs2, ht, ha, hm, htn, hc]
                  clear hb hsz ht ha hm cT
                  go_enter Try.func29, Try.ntmps29
                  go_wp2_with fail
                  refine (cA.out _).mono ?_
                  rintro e w1 ⟨rfl, rfl⟩
                  clear cA
                  go_wp2_with fail
                  go_ret
                  exact ⟨rfl, (Below.refl _ w).alloc (Nat.le_refl _) _⟩
          | true =>
            have ha1 : (anchor.toList == []) = true := ha
            have ha2 : (anchor.toList != []) = false := by show (!(anchor.toList == [])) = _; rw [ha1]; rfl
            cases hg : noB tag with
            | false =>
              have hg1 : (tag.toList == []) = false := hg
              have hg2 : (tag.toList != []) = true := by show (!(tag.toList == [])) = _; rw [hg1]; rfl
              cases hm : nmOk anchor with
              | false =>
                rw [hm] at cA
                obtain rfl : b = false := by rw [← hb]; simp [evOk, evBad, evRest, loK, hiK, nodeK, hs1, hs2, ht, ha, hg, hm]
                clear hb hsz ht ha hg hm cT
                go_enter Try.func29, Try.ntmps29
                go_wp2_with fail
                refine (cA.out _).mono ?_
                rintro e w1 ⟨rfl, rfl⟩
                clear cA
                go_wp2_with fail
                go_ret
                exact ⟨rfl, (Below.refl _ w).alloc (Nat.le_refl _) _⟩
              | true =>
                rw [hm] at cA
                by_cases htg : (120 : Int) < (tag.size : Int)
                · have htn : ¬ tag.size ≤ 120 := by omega
                  obtain rfl : b = false := by rw [← hb]; simp [evOk, evBad, evRest, loK, hiK, nodeK, hs1, hs2, ht, ha, hg, hm, htn]
                  clear hb hsz ht ha hg hm cT
                  go_enter Try.func29, Try.ntmps29
                  go_wp2_with fail
                  refine (cA.out _).mono ?_
                  rintro e w1 ⟨rfl, rfl⟩
                  clear cA
                  go_wp2_with fail
                  go_ret
                  exact ⟨rfl, (Below.refl _ w).alloc (Nat.le_refl _) _⟩
                · have htn : tag.size ≤ 120 := by omega
                  by_cases hc : code = 0
                  · have hc1 : (code == 0) = true := by rw [beq_iff_eq]; exact hc
                    by_cases hat : at_ = 0
                    · have hat1 : (at_ == 0) = true := by rw [beq_iff_eq]; exact hat
                      obtain rfl : b = true := by rw [← hb]; simp [evOk, evBad, evRest, loK, hiK, nodeK, hs1, hs2, ht, ha, hg, hm, htn, hc, hat]
                      clear hb hsz ht ha hg hm cT
                      go_enter Try.func29, Try.ntmps29
                      go_wp2_with fail
                      refine (cA.out _).mono ?_
                      rintro e w1 ⟨rfl, rfl⟩
                      clear cA
                      go_wp2_with fail
                      go_ret
                      exact ⟨rfl, (Below.refl _ w).alloc (Nat.le_refl _) _⟩
                    · have hat1 : (at_ == 0) = false := by rw [beq_eq_false_iff_ne]; exact hat
                      obtain rfl : b = false := by rw [← hb]; simp [evOk, evBad, evRest, loK, hiK, nodeK, hs1, hs2, ht, ha, hg, hm, htn, hc, hat]
                      clear hb hsz ht ha hg hm cT
                      go_enter Try.func29, Try.ntmps29
                      go_wp2_with fail
                      refine (cA.out _).mono ?_
                      rintro e w1 ⟨rfl, rfl⟩
                      clear cA
                      go_wp2_with fail
                      go_ret
                      exact ⟨rfl, (Below.refl _ w).alloc (Nat.le_refl _) _⟩
                  · have hc1 : (code == 0) = false := by rw [beq_eq_false_iff_ne]; exact hc
                    obtain rfl : b = false := by rw [← hb]; simp [evOk, evBad, evRest, loK, hiK, nodeK, hs1, hs2, ht, ha, hg, hm, htn, hc]
                    clear hb hsz ht ha hg hm cT
                    go_enter Try.func29, Try.ntmps29
                    go_wp2_with fail
                    refine (cA.out _).mono ?_
                    rintro e w1 ⟨rfl, rfl⟩
                    clear cA
                    go_wp2_with fail
                    go_ret
                    exact ⟨rfl, (Below.refl _ w).alloc (Nat.le_refl _) _⟩
            | true =>
              have hg1 : (tag.toList == []) = true := hg
              have hg2 : (tag.toList != []) = false := by show (!(tag.toList == [])) = _; rw [hg1]; rfl
              cases hm : nmOk anchor with
              | false =>
                rw [hm] at cA
                obtain rfl : b = false := by rw [← hb]; simp [evOk, evBad, evRest, loK, hiK, nodeK, hs1, hs2, ht, ha, hg, hm]
                clear hb hsz ht ha hg hm cT
                go_enter Try.func29, Try.ntmps29
                go_wp2_with fail
                refine (cA.out _).mono ?_
                rintro e w1 ⟨rfl, rfl⟩
                clear cA
                go_wp2_with fail
                go_ret
                exact ⟨rfl, (Below.refl _ w).alloc (Nat.le_refl _) _⟩
              | true =>
                rw [hm] at cA
                by_cases htg : (120 : Int) < (tag.size : Int)
                · have htn : ¬ tag.size ≤ 120 := by omega
                  obtain rfl : b = false := by rw [← hb]; simp [evOk, evBad, evRest, loK, hiK, nodeK, hs1, hs2, ht, ha, hg, hm, htn]
                  clear hb hsz ht ha hg hm cT
                  go_enter Try.func29, Try.ntmps29
                  go_wp2_with fail
                  refine (cA.out _).mono ?_
                  rintro e w1 ⟨rfl, rfl⟩
                  clear cA
                  go_wp2_with fail
                  go_ret
                  exact ⟨rfl, (Below.refl _ w).alloc (Nat.le_refl _) _⟩
                · have htn : tag.size ≤ 120 := by omega
                  by_cases hc : code = 0
                  · have hc1 : (code == 0) = true := by rw [beq_iff_eq]; exact hc
                    by_cases hat : at_ = 0
                    · have hat1 : (at_ == 0) = true := by rw [beq_iff_eq]; exact hat
                      obtain rfl : b = true := by rw [← hb]; simp [evOk, evBad, evRest, loK, hiK, nodeK, hs1, hs2, ht, ha, hg, hm, htn, hc, hat]
                      clear hb hsz ht ha hg hm cT
                      go_enter Try.func29, Try.ntmps29
                      go_wp2_with fail
                      refine (cA.out _).mono ?_
                      rintro e w1 ⟨rfl, rfl⟩
                      clear cA
                      go_wp2_with fail
                      go_ret
                      exact ⟨rfl, (Below.refl _ w).alloc (Nat.le_refl _) _⟩
                    · have hat1 : (at_ == 0) = false := by rw [beq_eq_false_iff_ne]; exact hat
                      obtain rfl : b = false := by rw [← hb]; simp [evOk, evBad, evRest, loK, hiK, nodeK, hs1, hs2, ht, ha, hg, hm, htn, hc, hat]
                      clear hb hsz ht ha hg hm cT
                      go_enter Try.func29, Try.ntmps29
                      go_wp2_with fail
                      refine (cA.out _).mono ?_
                      rintro e w1 ⟨rfl, rfl⟩
                      clear cA
                      go_wp2_with fail
                      go_ret
                      exact ⟨rfl, (Below.refl _ w).alloc (Nat.le_refl _) _⟩
                  · have hc1 : (code == 0) = false := by rw [beq_eq_false_iff_ne]; exact hc
                    obtain rfl : b = false := by rw [← hb]; simp [evOk, evBad, evRest, loK, hiK, nodeK, hs1, hs2, ht, ha, hg, hm, htn, hc]
                    clear hb hsz ht ha hg hm cT
                    go_enter Try.func29, Try.ntmps29
                    go_wp2_with fail
                    refine (cA.out _).mono ?_
                    rintro e w1 ⟨rfl, rfl⟩
                    clear cA
                    go_wp2_with fail
                    go_ret
                    exact ⟨rfl, (Below.refl _ w).alloc (Nat.le_refl _) _⟩
end Go.Proofs.Ytmbbmibkjnlkkaa
