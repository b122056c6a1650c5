/- spec.TagAt answers the tag at a place. -/
import Derived.Test.YtlifedkieeogdaiSst
namespace Go.Proofs.Ytlifedkieeogdai
open Go.ChangeShapes Go.WideShapes Go.ChangeAt Go.RowKit
set_option maxHeartbeats 4000000 in
theorem spec_tag_k (s : ByteArray) (p : Int) (k : Nat) (w : World) (hs : s.size ≤ mx) (hk : cl s.size p = k) :
    Calls Try.prog 12 #[.string s, .int .i64 p] w fun e w' => e = .returned (.tuple #[.string (tagT s k), .int .i64 (tagE s k), .bool (tagB s k)]) ∧ w' = w := by
  have hcl := cl_le s.size p
  rw [hk] at hcl
  have HK : Hid (cl s.size p = k) := hk
  clear hk
  have hs' := hs
  unfold mx at hs'
  go_enter Try.func12, Try.ntmps12
  go_wp2_with fail
  refine (l01P_any _ _ _ hs).mono ?_
  rintro e w1 ⟨rfl, rfl⟩
  rw [HK.out]
  cases h0 : sgn p33 s k with
  | false =>
    obtain ⟨e1, e2, e3⟩ := tag_no0 h0
    have E1 : Hid (tagT s k = ByteArray.empty) := e1
    have E2 : Hid (tagE s k = 0) := e2
    have E3 : Hid (tagB s k = false) := e3
    clear e1 e2 e3
    by_cases hlt : k < s.size
    · have hg := bt_get s k hlt
      have hn := sgn_no h0 hlt
      unfold p33 at hn
      simp only [beq_eq_false_iff_ne] at hn
      have n1 : (((s[k]'hlt).toNat : Int) != 33) = true := by rw [hg, bne_iff_ne]; omega
      clear hn hg h0
      go_wp2_with fail
      go_ret3
      exact ⟨ret_trip E1.out.symm (by rw [E2.out]; rfl) E3.out.symm, rfl⟩
    · have hge : (s.size : Int) ≤ (k : Int) := by omega
      clear h0 hlt
      go_wp2_with fail
      go_ret3
      exact ⟨ret_trip E1.out.symm (by rw [E2.out]; rfl) E3.out.symm, rfl⟩
  | true =>
    have hlt := sgn_lt h0
    have hg := bt_get s k hlt
    have h33 : bt s k = 33 := by have := sgn_bt h0; unfold p33 at this; simpa using this
    have hc : (((s[k]'hlt).toNat : Int) != 33) = false := by rw [hg, h33]; rfl
    have hge := tagQ_ge s k
    have hle := tagQ_le s k hcl
    have hsl := str_le s k hcl
    have hsg := str_ge s k
    generalize hq : tagQ s k = q at *
    generalize hr : str s k = r at *
    have HR : Hid (str s k = r) := hr
    have hA : Hid (sgn p33 s k = true) := h0
    -- what is said at the end
    have hend : (((60 : Int) < (q : Int) - (k : Int)) ∧ Hid (tagT s k = ByteArray.empty ∧ tagE s k = 0 ∧ tagB s k = false)) ∨ (((q : Int) - (k : Int) ≤ 60) ∧ Hid (tagT s k = s.extract k q ∧ tagE s k = q ∧ tagB s k = true)) := by
      by_cases h2 : k + 60 < q
      · exact Or.inl ⟨by omega, tag_no2 hq h2⟩
      · exact Or.inr ⟨by omega, tag_yes h0 hq (by omega)⟩
    clear hg h33 h0 hr
    cases hl : lt s k with
    | false =>
      have hqr : q = r := by rw [← hq, tagQ_no1 hl]; exact HR.out
      subst hqr
      clear hq
      by_cases h2 : k + 1 < s.size
      · have hg1 := bt_get s (k + 1) h2
        have h60 : (((s[k + 1]'h2).toNat : Int) == 60) = false := by
          rw [hg1, beq_eq_false_iff_ne]
          intro h
          unfold lt at hl
          rw [decide_eq_true (by omega), Bool.true_and, beq_eq_false_iff_ne] at hl
          omega
        have h2' : (k : Int) + 1 < (s.size : Int) := by omega
        clear hg1 hl
        rcases hend with ⟨h6, HE⟩ | ⟨h6, HE⟩
        · go_wp2_with fail
          refine (stretch_any s k q _ hs hcl HR.out).mono ?_
          rintro e w2 ⟨rfl, rfl⟩
          go_wp2_with fail
          go_ret3
          exact ⟨ret_trip HE.out.1.symm (by rw [HE.out.2.1]; rfl) HE.out.2.2.symm, rfl⟩
        · go_wp2_with fail
          refine (stretch_any s k q _ hs hcl HR.out).mono ?_
          rintro e w2 ⟨rfl, rfl⟩
          go_wp2_with fail
          go_ret3
          exact ⟨ret_trip HE.out.1.symm (by rw [HE.out.2.1]) HE.out.2.2.symm, rfl⟩
      · have h2' : (s.size : Int) ≤ (k : Int) + 1 := by omega
        clear hl h2
        rcases hend with ⟨h6, HE⟩ | ⟨h6, HE⟩
        · exfalso; omega
        · go_wp2_with fail
          refine (stretch_any s k q _ hs hcl HR.out).mono ?_
          rintro e w2 ⟨rfl, rfl⟩
          go_wp2_with fail
          go_ret3
          exact ⟨ret_trip HE.out.1.symm (by rw [HE.out.2.1]) HE.out.2.2.symm, rfl⟩
    | true =>
      have hk2 := lt_size hl
      have h1l : k + 1 < s.size := by omega
      have hg1 := bt_get s (k + 1) h1l
      have h60 : (s[k + 1]'h1l).toNat = 60 := by rw [hg1]; exact lt_bt hl
      have h2' : (k : Int) + 1 < (s.size : Int) := by omega
      have hcg := clo_ge s (k + 2)
      have hcl2 := clo_le s (k + 2) hk2
      generalize hv : closeR s (k + 2) = v at *
      have HV : Hid (closeR s (k + 2) = v) := hv
      unfold closeR at hv
      generalize hc2 : clo s (k + 2) = c at *
      clear hg1
      cases h3 : sgn p62 s c with
      | true =>
        have hv' : v = (c : Int) + 1 := by rw [← hv, if_pos h3]
        by_cases h4 : c = k + 2
        · have hqr : q = r := by rw [← hq, tagQ_no2 hc2 h4]; exact HR.out
          subst hqr
          have h5 : v ≤ (k : Int) + 3 := by omega
          have h5' : (-1 : Int) ≤ v := by omega
          clear hq hv hc2 h3 h4 hv' hl
          rcases hend with ⟨h6, HE⟩ | ⟨h6, HE⟩
          · go_wp2_with fail
            refine (stretch_any s k q _ hs hcl HR.out).mono ?_
            rintro e w2 ⟨rfl, rfl⟩
            go_wp2_with fail
            refine (close_any s (k + 2) v _ hs hk2 HV.out).mono ?_
            rintro e w2 ⟨rfl, rfl⟩
            go_wp2_with fail
            go_ret3
            exact ⟨ret_trip HE.out.1.symm (by rw [HE.out.2.1]; rfl) HE.out.2.2.symm, rfl⟩
          · go_wp2_with fail
            refine (stretch_any s k q _ hs hcl HR.out).mono ?_
            rintro e w2 ⟨rfl, rfl⟩
            go_wp2_with fail
            refine (close_any s (k + 2) v _ hs hk2 HV.out).mono ?_
            rintro e w2 ⟨rfl, rfl⟩
            go_wp2_with fail
            go_ret3
            exact ⟨ret_trip HE.out.1.symm (by rw [HE.out.2.1]) HE.out.2.2.symm, rfl⟩
        · have hqc : q = c + 1 := by rw [← hq, tagQ_yes hl hc2 (by omega) h3]
          have hvq : v = (q : Int) := by omega
          have h5 : (k : Int) + 3 < (q : Int) := by omega
          subst hvq
          clear hq hv hc2 h3 h4 hv' hl hqc
          rcases hend with ⟨h6, HE⟩ | ⟨h6, HE⟩
          · go_wp2_with fail
            refine (stretch_any s k r _ hs hcl HR.out).mono ?_
            rintro e w2 ⟨rfl, rfl⟩
            go_wp2_with fail
            refine (close_any s (k + 2) q _ hs hk2 HV.out).mono ?_
            rintro e w2 ⟨rfl, rfl⟩
            go_wp2_with fail
            go_ret3
            exact ⟨ret_trip HE.out.1.symm (by rw [HE.out.2.1]; rfl) HE.out.2.2.symm, rfl⟩
          · go_wp2_with fail
            refine (stretch_any s k r _ hs hcl HR.out).mono ?_
            rintro e w2 ⟨rfl, rfl⟩
            go_wp2_with fail
            refine (close_any s (k + 2) q _ hs hk2 HV.out).mono ?_
            rintro e w2 ⟨rfl, rfl⟩
            go_wp2_with fail
            go_ret3
            exact ⟨ret_trip HE.out.1.symm (by rw [HE.out.2.1]) HE.out.2.2.symm, rfl⟩
      | false =>
        have hv' : v = -1 := by rw [← hv, if_neg (by rw [h3]; simp)]
        have hqr : q = r := by rw [← hq, tagQ_no3 hc2 h3]; exact HR.out
        subst hqr
        subst hv'
        have h5 : (-1 : Int) ≤ (k : Int) + 3 := by omega
        clear hq hv hc2 h3 hl
        rcases hend with ⟨h6, HE⟩ | ⟨h6, HE⟩
        · go_wp2_with fail
          refine (stretch_any s k q _ hs hcl HR.out).mono ?_
          rintro e w2 ⟨rfl, rfl⟩
          go_wp2_with fail
          refine (close_any s (k + 2) _ _ hs hk2 HV.out).mono ?_
          rintro e w2 ⟨rfl, rfl⟩
          go_wp2_with fail
          go_ret3
          exact ⟨ret_trip HE.out.1.symm (by rw [HE.out.2.1]; rfl) HE.out.2.2.symm, rfl⟩
        · go_wp2_with fail
          refine (stretch_any s k q _ hs hcl HR.out).mono ?_
          rintro e w2 ⟨rfl, rfl⟩
          go_wp2_with fail
          refine (close_any s (k + 2) _ _ hs hk2 HV.out).mono ?_
          rintro e w2 ⟨rfl, rfl⟩
          go_wp2_with fail
          go_ret3
          exact ⟨ret_trip HE.out.1.symm (by rw [HE.out.2.1]) HE.out.2.2.symm, rfl⟩
theorem spec_tag (s : ByteArray) (p : Int) (w : World) (hs : s.size ≤ mx) :
    Calls Try.prog 12 #[.string s, .int .i64 p] w fun e w' => e = .returned (.tuple #[.string (tagT s (cl s.size p)), .int .i64 (tagE s (cl s.size p)), .bool (tagB s (cl s.size p))]) ∧ w' = w :=
  spec_tag_k s p _ w hs rfl
end Go.Proofs.Ytlifedkieeogdai
