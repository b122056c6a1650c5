/- spec.Gap and impl.Gap both answer what 'gap' says. -/
import Derived.Test.YthfapofjbeccaahBeg
import Derived.Deep.QuietTactic
import Derived.BigQuiet
namespace Go.Proofs.Ythfapofjbeccaah
open Go.ChangeShapes Go.WideShapes Go.ChangeAt Go.RowKit
set_option maxHeartbeats 2000000 in
theorem spec_gap (s : ByteArray) (p : Int) (w : World) (hs : s.size ≤ mx) :
    Calls Try.prog 19 #[.string s, .int .i64 p] w fun e w' => e = .returned (.int .i64 (gap s (cl s.size p))) ∧ w' = w := by
  have hcl := cl_le s.size p
  have hs' := hs
  unfold mx at hs'
  go_enter Try.func19, Try.ntmps19
  go_wp2_with fail
  refine (l01P_any _ _ _ hs).mono ?_
  rintro e w1 ⟨rfl, rfl⟩
  generalize hk : cl s.size p = k0 at *
  have HK : Hid (cl s.size p = k0) := hk
  clear hk
  go_wp2_with fail
  go_loop [1] (fun t => ∃ k : Nat, k ≤ s.size ∧ t = .int .i64 k ∧ Hid (gap s k = gap s k0)) (fun t => s.size + 1 - (intOf t).toNat)
  case atStart => exact ⟨k0, hcl, rfl, rfl⟩
  case round =>
    obtain ⟨k, hk, rfl, HL⟩ := hrel
    obtain ⟨q, hq⟩ : ∃ q, wh s k = q := ⟨_, rfl⟩
    have hkq : k ≤ q := by rw [← hq]; exact fwd_ge _ _ _
    have hqs : q ≤ s.size := by rw [← hq]; exact fwd_le _ _ _ hk
    have HW : Hid (wh s k = q) := hq
    have HG : Hid (gap s q = gap s k0) := by
      show gap s q = gap s k0
      rw [← HL.out, gap_wh s k hk, hq]
    clear hq
    go_wp2_with fail
    refine (spec_white_nat s k q _ hs hk HW.out).mono ?_
    rintro e w2 ⟨rfl, rfl⟩
    by_cases hlt : q < s.size
    · have hg := bt_get s q hlt
      have hnW : pW (bt s q) = false := by rw [← HW.out]; exact fwd_at _ _ _ (by rw [show fwd pW s k = wh s k from rfl, HW.out]; exact hlt)
      by_cases h35 : bt s q = 35
      · have hc : (s[q]'hlt).toNat = 35 := by rw [hg]; exact h35
        have hnG : Hid (pG (bt s q) = false) := by show pG (bt s q) = false; rw [h35]; rfl
        have hrs : Hid (rem s q = (beg s q || pW (bt s (q - 1)))) := rem_spec s q h35
        clear h35 hg hnW
        obtain ⟨l, hl⟩ : ∃ l, lnb s q = l := ⟨_, rfl⟩
        have hle : l ≤ q := by rw [← hl]; exact lnb_le s q
        have HLl : Hid (lnb s q = l) := hl
        have hbeg := lnb_beg s q
        rw [hl] at hbeg
        have HBg : Hid (l = q ↔ beg s q = true) := hbeg
        clear hl hbeg
        obtain ⟨E, hE⟩ : ∃ E, endL s q = E := ⟨_, rfl⟩
        have HE : Hid (endL s q = E) := hE
        clear hE
        have hrem : rem s q = true → q < E ∧ E ≤ s.size ∧ gap s E = gap s k0 ∧ (E < s.size → bt s E = 10) := by
          intro hr
          have h1 := rem_end hlt hr
          rw [HE.out] at h1
          refine ⟨h1.1, h1.2, ?_, fun h2 => ?_⟩
          · rw [← HG.out, gap_r hlt hnG.out hr, HE.out]
          · have := fwd_at pN s q (by rw [show fwd pN s q = endL s q from rfl, HE.out]; exact h2)
            rw [show fwd pN s q = endL s q from rfl, HE.out] at this
            simpa [pN] using this
        have HRem : Hid (rem s q = true → q < E ∧ E ≤ s.size ∧ gap s E = gap s k0 ∧ (E < s.size → bt s E = 10)) := hrem
        clear hrem
        by_cases hlk : l = q
        · have hr : rem s q = true := by rw [hrs.out, HBg.out.1 hlk]; rfl
          obtain ⟨hE1, hE2, hE3, hE4⟩ := HRem.out hr
          have HG2 : Hid (gap s E = gap s k0) := hE3
          clear hE3 hr
          have hlk' : ((l : Int) == (q : Int)) = true := by rw [hlk]; exact beq_self_eq_true _
          clear hlk
          go_wp2_with fail
          refine (spec_line_nat s q l _ hs hqs HLl.out).mono ?_
          rintro e w4 ⟨rfl, rfl⟩
          go_wp2_with fail
          refine (spec_end_nat s q E _ hs hqs HE.out).mono ?_
          rintro e w5 ⟨rfl, rfl⟩
          by_cases hEs : E < s.size
          · have h10 : (s[E]'hEs).toNat = 10 := by rw [bt_get]; exact hE4 hEs
            have HG3 : Hid (gap s (E + 1) = gap s k0) := by
              show gap s (E + 1) = gap s k0
              rw [← HG2.out, gap_g hEs (by rw [hE4 hEs]; rfl)]
            clear hE4
            go_wp2_with fail
            go_round
            case rel => exact ⟨E + 1, by omega, by go_num, HG3⟩
            case measure => simp [intOf]; omega
          · have HR : Hid (gap s k0 = E) := by show gap s k0 = E; rw [← HG2.out, gap_end (by omega)]
            clear hE4
            go_wp2_with fail
            go_ret
            exact ⟨ret_int (by rw [HK.out, HR.out]), rfl⟩
        · have hbf : beg s q = false := by
            cases h : beg s q with
            | false => rfl
            | true => exact absurd (HBg.out.2 h) hlk
          obtain ⟨j, rfl⟩ : ∃ j, q = j + 1 := ⟨q - 1, by omega⟩
          have hrj : Hid (rem s (j + 1) = pW (bt s j)) := by
            show rem s (j + 1) = pW (bt s j)
            rw [hrs.out, hbf]; rfl
          have hlk' : ((l : Int) == ((j : Int) + 1)) = false := by rw [beq_eq_false_iff_ne]; omega
          clear hlk hbf
          have hj1 : decide (j < s.size) = true := decide_eq_true (by omega)
          cases hpj : pW (bt s j) with
          | true =>
            have HPj : Hid (true = (decide (j < s.size) && pW (bt s j))) := by show true = _; rw [hpj, hj1]; rfl
            obtain ⟨hE1, hE2, hE3, hE4⟩ := HRem.out (by rw [hrj.out, hpj])
            have HG2 : Hid (gap s E = gap s k0) := hE3
            clear hE3 hpj hj1
            go_wp2_with fail
            refine (spec_line_nat s (j + 1) l _ hs hqs HLl.out).mono ?_
            rintro e w4 ⟨rfl, rfl⟩
            go_wp2_with fail
            refine (spec_white1 s j _ true HPj.out).mono ?_
            rintro e w4 ⟨rfl, rfl⟩
            go_wp2_with fail
            refine (spec_end_nat s (j + 1) E _ hs hqs HE.out).mono ?_
            rintro e w5 ⟨rfl, rfl⟩
            by_cases hEs : E < s.size
            · have h10 : (s[E]'hEs).toNat = 10 := by rw [bt_get]; exact hE4 hEs
              have HG3 : Hid (gap s (E + 1) = gap s k0) := by
                show gap s (E + 1) = gap s k0
                rw [← HG2.out, gap_g hEs (by rw [hE4 hEs]; rfl)]
              clear hE4
              go_wp2_with fail
              go_round
              case rel => exact ⟨E + 1, by omega, by go_num, HG3⟩
              case measure => simp [intOf]; omega
            · have HR : Hid (gap s k0 = E) := by show gap s k0 = E; rw [← HG2.out, gap_end (by omega)]
              clear hE4
              go_wp2_with fail
              go_ret
              exact ⟨ret_int (by rw [HK.out, HR.out]), rfl⟩
          | false =>
            have HPj : Hid (false = (decide (j < s.size) && pW (bt s j))) := by show false = _; rw [hpj, hj1]; rfl
            have HR : Hid (gap s k0 = j + 1) := by show gap s k0 = j + 1; rw [← HG.out]; exact gap_no hnG.out (by rw [hrj.out, hpj])
            clear hpj hj1
            go_wp2_with fail
            refine (spec_line_nat s (j + 1) l _ hs hqs HLl.out).mono ?_
            rintro e w4 ⟨rfl, rfl⟩
            go_wp2_with fail
            refine (spec_white1 s j _ false HPj.out).mono ?_
            rintro e w4 ⟨rfl, rfl⟩
            go_wp2_with fail
            go_ret
            exact ⟨ret_int (by rw [HK.out, HR.out]; rfl), rfl⟩
      · have hc : (((s[q]'hlt).toNat : Int) == 35) = false := by rw [hg, beq_eq_false_iff_ne]; omega
        by_cases h10 : bt s q = 10
        · have HG3 : Hid (gap s (q + 1) = gap s k0) := by
            show gap s (q + 1) = gap s k0
            rw [← HG.out, gap_g hlt (by rw [h10]; rfl)]
          have h10' : (s[q]'hlt).toNat = 10 := by rw [hg]; exact h10
          clear hg h10 h35 hnW
          go_wp2_with fail
          go_round
          case rel => exact ⟨q + 1, by omega, by go_num, HG3⟩
          case measure => simp [intOf]; omega
        · have HR : Hid (gap s k0 = q) := by
            show gap s k0 = q
            rw [← HG.out]
            refine gap_no ?_ ?_
            · rw [pG_or, hnW]; simp [h10]
            · unfold rem; simp [h35]
          have h10' : (((s[q]'hlt).toNat : Int) != 10) = true := by rw [hg, bne_iff_ne]; omega
          clear hg h10 h35 hnW
          go_wp2_with fail
          go_ret
          exact ⟨ret_int (by rw [HK.out, HR.out]), rfl⟩
    · have HR : Hid (gap s k0 = q) := by show gap s k0 = q; rw [← HG.out, gap_end (by omega)]
      go_wp2_with fail
      go_ret
      exact ⟨ret_int (by rw [HK.out, HR.out]), rfl⟩
end Go.Proofs.Ythfapofjbeccaah
