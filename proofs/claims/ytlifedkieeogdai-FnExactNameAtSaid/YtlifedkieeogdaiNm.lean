/- impl.NameAt answers the name at a place. -/
import Derived.Test.YtlifedkieeogdaiTg
namespace Go.Proofs.Ytlifedkieeogdai
open Go.ChangeShapes Go.WideShapes Go.ChangeAt Go.RowKit Go.Shelf
set_option maxHeartbeats 2000000 in
theorem readName_any (s : ByteArray) (p : Int) (k : Nat) (w : World) (hs : s.size ≤ mx) (hk : cl s.size p = k) :
    Calls Try.prog 31 #[.string s, .int .i64 p] w (TripPost (nameT s k) (nameE s k) (nameB s k) w) := by
  have hcl := cl_le s.size p
  rw [hk] at hcl
  have HK : Hid (cl s.size p = k) := hk
  clear hk
  have hs' := hs
  unfold mx at hs'
  go_enter Try.func31, Try.ntmps31
  go_wp2_with fail
  refine (bring_any _ _ _ hs).mono ?_
  rintro e w1 ⟨rfl, rfl⟩
  rw [HK.out]
  cases h0 : sgn p38 s k with
  | false =>
    have H0 : Hid (false = sgn p38 s k) := h0.symm
    obtain ⟨e1, e2, e3⟩ := name_no0 h0
    have E1 : Hid (nameT s k = ByteArray.empty) := e1
    have E2 : Hid (nameE s k = 0) := e2
    have E3 : Hid (nameB s k = false) := e3
    clear h0 e1 e2 e3
    go_wp2_with fail
    refine (signAt_any s _ k p38 _ false p38_signs H0.out).mono ?_
    rintro e w2 ⟨rfl, hb2⟩
    go_wp2_with fail
    go_ret3
    rw [E1.out, E2.out, E3.out]
    exact ⟨_, rfl, err_no _, hb2⟩
  | true =>
    have H0 : Hid (true = sgn p38 s k) := h0.symm
    have hlt := sgn_lt h0
    have hge := str_ge s (k + 1)
    have hle := str_le s (k + 1) hlt
    generalize hq : str s (k + 1) = q at *
    have HQ : Hid (fwd pX s (k + 1) = q) := hq
    by_cases h1 : q = k + 1
    · obtain ⟨e1, e2, e3⟩ := name_no1 hq h1
      have E1 : Hid (nameT s k = ByteArray.empty) := e1
      have E2 : Hid (nameE s k = 0) := e2
      have E3 : Hid (nameB s k = false) := e3
      subst h1
      clear h0 e1 e2 e3 hq
      go_wp2_with fail
      refine (signAt_any s _ k p38 _ true p38_signs H0.out).mono ?_
      rintro e w2 ⟨rfl, hb2⟩
      go_wp2_with fail
      refine (until_nat s _ (k + 1) (k + 1) pE pX _ hs hlt pE_signs (fun _ => rfl) HQ.out).mono ?_
      rintro e w3 ⟨rfl, hb3⟩
      go_wp2_with fail
      go_ret3
      rw [E1.out, E2.out, E3.out]
      exact ⟨_, rfl, err_no _, hb2.trans (hb3.mono hb2.size)⟩
    · have hne : ((q : Int) == (k : Int) + 1) = false := by rw [beq_eq_false_iff_ne]; omega
      by_cases h2 : k + 61 < q
      · obtain ⟨e1, e2, e3⟩ := name_no2 hq h2
        have E1 : Hid (nameT s k = ByteArray.empty) := e1
        have E2 : Hid (nameE s k = 0) := e2
        have E3 : Hid (nameB s k = false) := e3
        have h2' : (60 : Int) < (q : Int) - ((k : Int) + 1) := by omega
        clear h0 e1 e2 e3 hq h1 h2
        go_wp2_with fail
        refine (signAt_any s _ k p38 _ true p38_signs H0.out).mono ?_
        rintro e w2 ⟨rfl, hb2⟩
        go_wp2_with fail
        refine (until_nat s _ (k + 1) q pE pX _ hs hlt pE_signs (fun _ => rfl) HQ.out).mono ?_
        rintro e w3 ⟨rfl, hb3⟩
        go_wp2_with fail
        go_ret3
        rw [E1.out, E2.out, E3.out]
        exact ⟨_, rfl, err_no _, hb2.trans (hb3.mono hb2.size)⟩
      · obtain ⟨e1, e2, e3⟩ := name_yes h0 hq (by omega) (by omega)
        have E1 : Hid (nameT s k = s.extract (k + 1) q) := e1
        have E2 : Hid (nameE s k = q) := e2
        have E3 : Hid (nameB s k = true) := e3
        have h2' : (q : Int) - ((k : Int) + 1) ≤ 60 := by omega
        clear h0 e1 e2 e3 hq h1 h2
        go_wp2_with fail
        refine (signAt_any s _ k p38 _ true p38_signs H0.out).mono ?_
        rintro e w2 ⟨rfl, hb2⟩
        go_wp2_with fail
        refine (until_nat s _ (k + 1) q pE pX _ hs hlt pE_signs (fun _ => rfl) HQ.out).mono ?_
        rintro e w3 ⟨rfl, hb3⟩
        go_wp2_with fail
        go_ret3
        rw [E1.out, E2.out, E3.out]
        exact ⟨_, rfl, err_yes, hb2.trans (hb3.mono hb2.size)⟩
theorem name_any' (s : ByteArray) (p : Int) (w : World) (hs : s.size ≤ mx) (tt : ByteArray) (te : Nat) (tb : Bool) (h1 : nameT s (cl s.size p) = tt) (h2 : nameE s (cl s.size p) = te) (h3 : nameB s (cl s.size p) = tb) :
    Calls Try.prog 11 #[.string s, .int .i64 p] w fun e w' => e = .returned (.tuple #[.string tt, .int .i64 (te : Int), .bool tb]) ∧ Below w.heap.size w w' := by
  have hR := readName_any s p _ w hs rfl
  rw [h1, h2, h3] at hR
  clear h1 h2 h3
  go_enter Try.func11, Try.ntmps11
  go_wp2_with fail
  refine hR.mono ?_
  rintro e w1 ⟨v, rfl, he, hb1⟩
  cases tb with
  | true =>
    obtain rfl := he.1 rfl
    clear he hR
    go_wp2_with fail
    go_quiet (fail)
    go_wp2
    go_ret3
    exact ⟨rfl, hb1.trans ((below_drewN' _ _).mono hb1.size)⟩
  | false =>
    obtain ⟨m, rfl⟩ := he.2 rfl
    clear he hR
    go_wp2_with fail
    go_quiet (fail)
    go_wp2
    go_ret3
    exact ⟨rfl, hb1.trans ((below_drewN' _ _).mono hb1.size)⟩
theorem name_any (s : ByteArray) (p : Int) (w : World) (hs : s.size ≤ mx) :
    Calls Try.prog 11 #[.string s, .int .i64 p] w fun e w' => e = .returned (.tuple #[.string (nameT s (cl s.size p)), .int .i64 (nameE s (cl s.size p)), .bool (nameB s (cl s.size p))]) ∧ Below w.heap.size w w' :=
  name_any' s p w hs _ _ _ rfl rfl rfl
end Go.Proofs.Ytlifedkieeogdai
