/- spec.Rest and impl.Rest both answer what 'rest' says. -/
import Derived.Test.YtfpkcfedkjjjbakBeg
namespace Go.Proofs.Ytfpkcfedkjjjbak
open Go.ChangeShapes Go.WideShapes Go.ChangeAt Go.RowKit
theorem rest_yes {s : ByteArray} {k q : Nat} (hq : wh s k = q) (h : restP s k q = true) : rest s k = (endL s q, true) := by
  unfold rest; rw [hq, if_pos h]
theorem rest_no {s : ByteArray} {k q : Nat} (hq : wh s k = q) (h : restP s k q = false) : rest s k = (q, false) := by
  unfold rest; rw [hq, if_neg (by rw [h]; simp)]
set_option maxHeartbeats 1000000 in
theorem spec_rest (s : ByteArray) (p : Int) (w : World) (hs : s.size ≤ mx) :
    Calls Try.prog 15 #[.string s, .int .i64 p] w fun e w' => e = .returned (.tuple #[.int .i64 ((rest s (cl s.size p)).1 : Int), .bool (rest s (cl s.size p)).2]) ∧ w' = w := by
  have hcl := cl_le s.size p
  have hs' := hs
  unfold mx at hs'
  go_enter Try.func15, Try.ntmps15
  go_wp2_with fail
  refine (l01P_any _ _ _ hs).mono ?_
  rintro e w1 ⟨rfl, rfl⟩
  generalize hk : cl s.size p = k at *
  have HK : Hid (cl s.size p = k) := hk
  clear hk
  obtain ⟨q, hq⟩ : ∃ q, wh s k = q := ⟨_, rfl⟩
  have hkq : k ≤ q := by rw [← hq]; exact fwd_ge _ _ _
  have hqs : q ≤ s.size := by rw [← hq]; exact fwd_le _ _ _ hcl
  have HW : Hid (wh s k = q) := hq
  clear hq
  go_wp2_with fail
  refine (spec_white_nat s k q _ hs hcl HW.out).mono ?_
  rintro e w2 ⟨rfl, rfl⟩
  obtain ⟨E, hE⟩ : ∃ E, endL s q = E := ⟨_, rfl⟩
  have HE : Hid (endL s q = E) := hE
  clear hE
  cases hbr : brk s q with
  | true =>
    have HB : Hid (true = brk s q) := hbr.symm
    have HR : Hid (rest s k = (E, true)) := by
      show rest s k = (E, true)
      rw [rest_yes HW.out (by unfold restP; rw [hbr]; rfl), HE.out]
    clear hbr
    go_wp2_with fail
    refine (spec_break s q _ true HB.out).mono ?_
    rintro e w3 ⟨rfl, rfl⟩
    go_wp2_with fail
    refine (spec_end_nat s q E _ hs hqs HE.out).mono ?_
    rintro e w4 ⟨rfl, rfl⟩
    go_wp2_with fail
    go_ret2
    exact ⟨ret_tn (by rw [HK.out, HR.out]) (by rw [HK.out, HR.out]), rfl⟩
  | false =>
    have HB : Hid (false = brk s q) := hbr.symm
    have hlt : q < s.size := by
      rcases Nat.lt_or_ge q s.size with h | h
      · exact h
      · unfold brk at hbr; rw [decide_eq_true h] at hbr; cases hbr
    have hg := bt_get s q hlt
    by_cases h35 : bt s q = 35
    · have hc : (s[q]'hlt).toNat = 35 := by rw [hg]; exact h35
      have h35' : Hid (bt s q = 35) := h35
      clear h35 hg
      by_cases hlq : k < q
      · have HR : Hid (rest s k = (E, true)) := by
          show rest s k = (E, true)
          rw [rest_yes HW.out (by unfold restP; rw [h35'.out, decide_eq_true hlq]; simp), HE.out]
        clear hbr h35'
        go_wp2_with fail
        refine (spec_break s q _ false HB.out).mono ?_
        rintro e w3 ⟨rfl, rfl⟩
        go_wp2_with fail
        refine (spec_end_nat s q E _ hs hqs HE.out).mono ?_
        rintro e w4 ⟨rfl, rfl⟩
        go_wp2_with fail
        go_ret2
        exact ⟨ret_tn (by rw [HK.out, HR.out]) (by rw [HK.out, HR.out]), rfl⟩
      · have hql : q ≤ k := by omega
        obtain ⟨l, hl⟩ : ∃ l, lnb s k = l := ⟨_, rfl⟩
        have hle : l ≤ k := by rw [← hl]; exact lnb_le s k
        have HLl : Hid (lnb s k = l) := hl
        have hbeg := lnb_beg s k
        rw [hl] at hbeg
        clear hl
        by_cases hlk : l = k
        · have HR : Hid (rest s k = (E, true)) := by
            show rest s k = (E, true)
            rw [rest_yes HW.out (by unfold restP; rw [h35'.out, hbeg.1 hlk]; simp), HE.out]
          have hlk' : ((l : Int) == (k : Int)) = true := by rw [hlk]; exact beq_self_eq_true _
          clear hbr h35' hbeg hlk
          go_wp2_with fail
          refine (spec_break s q _ false HB.out).mono ?_
          rintro e w3 ⟨rfl, rfl⟩
          go_wp2_with fail
          refine (spec_line_nat s k l _ hs hcl HLl.out).mono ?_
          rintro e w4 ⟨rfl, rfl⟩
          go_wp2_with fail
          refine (spec_end_nat s q E _ hs hqs HE.out).mono ?_
          rintro e w4 ⟨rfl, rfl⟩
          go_wp2_with fail
          go_ret2
          exact ⟨ret_tn (by rw [HK.out, HR.out]) (by rw [HK.out, HR.out]), rfl⟩
        · have HR : Hid (rest s k = (q, false)) := by
            show rest s k = (q, false)
            have hbf : beg s k = false := by
              cases h : beg s k with
              | false => rfl
              | true => exact absurd (hbeg.2 h) hlk
            exact rest_no HW.out (by unfold restP; rw [hbr, hbf, decide_eq_false hlq]; simp)
          have hlk' : ((l : Int) == (k : Int)) = false := by rw [beq_eq_false_iff_ne]; omega
          clear hbr h35' hbeg hlk
          go_wp2_with fail
          refine (spec_break s q _ false HB.out).mono ?_
          rintro e w3 ⟨rfl, rfl⟩
          go_wp2_with fail
          refine (spec_line_nat s k l _ hs hcl HLl.out).mono ?_
          rintro e w4 ⟨rfl, rfl⟩
          go_wp2_with fail
          go_ret2
          exact ⟨ret_tn (by rw [HK.out, HR.out]) (by rw [HK.out, HR.out]), rfl⟩
    · have HR : Hid (rest s k = (q, false)) := by
        show rest s k = (q, false)
        exact rest_no HW.out (by unfold restP; rw [hbr]; simp [h35])
      have hc : (((s[q]'hlt).toNat : Int) == 35) = false := by rw [hg, beq_eq_false_iff_ne]; omega
      clear hbr h35 hg
      go_wp2_with fail
      refine (spec_break s q _ false HB.out).mono ?_
      rintro e w3 ⟨rfl, rfl⟩
      go_wp2_with fail
      go_ret2
      exact ⟨ret_tn (by rw [HK.out, HR.out]) (by rw [HK.out, HR.out]), rfl⟩
set_option maxHeartbeats 2000000 in
theorem rest_any (s : ByteArray) (p : Int) (w : World) (hs : s.size ≤ mx) :
    Calls Try.prog 19 #[.string s, .int .i64 p] w fun e w' => e = .returned (.tuple #[.int .i64 ((rest s (cl s.size p)).1 : Int), .bool (rest s (cl s.size p)).2]) ∧ Below w.heap.size w w' := by
  have hcl := cl_le s.size p
  have hs' := hs
  unfold mx at hs'
  go_enter Try.func19, Try.ntmps19
  go_wp2_with fail
  refine (bring_any _ _ _ hs).mono ?_
  rintro e w1 ⟨rfl, rfl⟩
  generalize hk : cl s.size p = k at *
  have HK : Hid (cl s.size p = k) := hk
  clear hk
  obtain ⟨q, hq⟩ : ∃ q, wh s k = q := ⟨_, rfl⟩
  have hkq : k ≤ q := by rw [← hq]; exact fwd_ge _ _ _
  have hqs : q ≤ s.size := by rw [← hq]; exact fwd_le _ _ _ hcl
  have HW : Hid (wh s k = q) := hq
  clear hq
  obtain ⟨E, hE⟩ : ∃ E, endL s q = E := ⟨_, rfl⟩
  have HE : Hid (endL s q = E) := hE
  have hbrE := brk_end hqs
  rw [hE] at hbrE
  have HBE : Hid (brk s q = decide (q = E)) := hbrE
  clear hE hbrE
  obtain ⟨b, hb⟩ : ∃ b, b = beg s k := ⟨_, rfl⟩
  have HBg : Hid (b = beg s k) := hb
  clear hb
  obtain ⟨ap, hap⟩ : ∃ ap, ap = (decide (k < q) || b) := ⟨_, rfl⟩
  have HAp : Hid (ap = (decide (k < q) || b)) := hap
  have HP : Hid (restP s k q = (decide (q = E) || (bt s q == 35 && ap))) := by
    show restP s k q = (decide (q = E) || (bt s q == 35 && ap))
    unfold restP; rw [HBE.out, hap, HBg.out]
  clear hap
  go_wp2_with fail
  refine (white_any_nat s k q _ hs hcl HW.out).mono ?_
  rintro e w2 ⟨rfl, hb2⟩
  go_wp2_with fail
  refine (endAt_any_nat s q E _ hs hqs HE.out).mono ?_
  rintro e w3 ⟨rfl, hb3⟩
  have hb := hb2.trans (hb3.mono hb2.size)
  clear hb2 hb3
  have tail : ∀ b0 : Bool, ap = b0 → (q = E → restP s k q = true) ∧ (q ≠ E → ∀ h : q < s.size, restP s k q = ((((s[q]'h).toNat : Int) == 35) && b0)) := by
    intro b0 e0
    refine ⟨fun e1 => by rw [HP.out, decide_eq_true e1]; rfl, fun e1 h => ?_⟩
    rw [HP.out, decide_eq_false e1, Bool.false_or, e0, bt_get s q h]
    congr 1
    rw [Bool.eq_iff_iff]; simp; omega
  have HT : Hid (∀ b0 : Bool, ap = b0 → (q = E → restP s k q = true) ∧ (q ≠ E → ∀ h : q < s.size, restP s k q = ((((s[q]'h).toNat : Int) == 35) && b0))) := tail
  clear tail
  have hEq : q ≤ E ∧ E ≤ s.size := by rw [← HE.out]; exact ⟨fwd_ge _ _ _, fwd_le _ _ _ hqs⟩
  obtain ⟨hE1, hE2⟩ := hEq
  by_cases hlq : k < q
  · have hap : ap = true := by rw [HAp.out, decide_eq_true hlq]; rfl
    have HT1 := HT.out true hap
    clear hap
    by_cases hqE : q = E
    · have HR : Hid (rest s k = (E, true)) := by
        show rest s k = (E, true)
        rw [rest_yes HW.out (HT1.1 hqE), HE.out]
      clear HT1
      have hqE' : ((q : Int) == (E : Int)) = true := by rw [hqE]; exact beq_self_eq_true _
      clear hqE
      go_wp2_with fail
      go_ret2
      exact ⟨ret_tn (by rw [HK.out, HR.out]) (by rw [HK.out, HR.out]), hb⟩
    · have hlt : q < s.size := by omega
      have hr := HT1.2 hqE hlt
      clear HT1
      have hqE' : ((q : Int) == (E : Int)) = false := by rw [beq_eq_false_iff_ne]; omega
      clear hqE
      cases h35 : (((s[q]'hlt).toNat : Int) == 35) with
      | true =>
        have HR : Hid (rest s k = (E, true)) := by
          show rest s k = (E, true)
          rw [rest_yes HW.out (by rw [hr, h35]; rfl), HE.out]
        clear hr
        go_wp2_with fail
        go_ret2
        exact ⟨ret_tn (by rw [HK.out, HR.out]) (by rw [HK.out, HR.out]), hb⟩
      | false =>
        have HR : Hid (rest s k = (q, false)) := rest_no HW.out (by rw [hr, h35]; rfl)
        clear hr
        go_wp2_with fail
        go_ret2
        exact ⟨ret_tn (by rw [HK.out, HR.out]) (by rw [HK.out, HR.out]), hb⟩
  · have hql : q ≤ k := by omega
    have hap : ap = b := by rw [HAp.out, decide_eq_false hlq]; rfl
    have HT1 := HT.out b hap
    clear hap
    go_wp2_with fail
    refine (begins_any s k _ b hs hcl HBg.out).mono ?_
    rintro e w4 ⟨rfl, rfl⟩
    by_cases hqE : q = E
    · have HR : Hid (rest s k = (E, true)) := by
        show rest s k = (E, true)
        rw [rest_yes HW.out (HT1.1 hqE), HE.out]
      clear HT1
      have hqE' : ((q : Int) == (E : Int)) = true := by rw [hqE]; exact beq_self_eq_true _
      clear hqE
      go_wp2_with fail
      go_ret2
      exact ⟨ret_tn (by rw [HK.out, HR.out]) (by rw [HK.out, HR.out]), hb⟩
    · have hlt : q < s.size := by omega
      have hr := HT1.2 hqE hlt
      clear HT1
      have hqE' : ((q : Int) == (E : Int)) = false := by rw [beq_eq_false_iff_ne]; omega
      clear hqE
      cases h35 : (((s[q]'hlt).toNat : Int) == 35) with
      | true =>
        cases b with
        | true =>
          have HR : Hid (rest s k = (E, true)) := by
            show rest s k = (E, true)
            rw [rest_yes HW.out (by rw [hr, h35]; rfl), HE.out]
          clear hr
          go_wp2_with fail
          go_ret2
          exact ⟨ret_tn (by rw [HK.out, HR.out]) (by rw [HK.out, HR.out]), hb⟩
        | false =>
          have HR : Hid (rest s k = (q, false)) := rest_no HW.out (by rw [hr, h35]; rfl)
          clear hr
          go_wp2_with fail
          go_ret2
          exact ⟨ret_tn (by rw [HK.out, HR.out]) (by rw [HK.out, HR.out]), hb⟩
      | false =>
        have HR : Hid (rest s k = (q, false)) := rest_no HW.out (by rw [hr, h35]; rfl)
        clear hr
        go_wp2_with fail
        go_ret2
        exact ⟨ret_tn (by rw [HK.out, HR.out]) (by rw [HK.out, HR.out]), hb⟩
end Go.Proofs.Ytfpkcfedkjjjbak
