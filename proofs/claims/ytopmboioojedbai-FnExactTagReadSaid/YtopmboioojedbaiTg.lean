/- impl.TagAt answers the tag at a place. -/
import Derived.Test.YtopmboioojedbaiUnt
namespace Go.Proofs.Ytopmboioojedbai
open Go.ChangeShapes Go.WideShapes Go.ChangeAt Go.RowKit Go.Shelf
theorem toList_beq' (a b : ByteArray) : (a.toList == b.toList) = decide (a = b) := by
  rw [Bool.eq_iff_iff]; simp only [beq_iff_eq, decide_eq_true_eq]
  constructor
  · intro h
    apply ba_ext
    rw [← ByteArray.toList_eq, ← ByteArray.toList_eq, h]
  · intro h; rw [h]
theorem hasp_any (s t : ByteArray) (w : World) (b : Bool) (hb : b = pre s t) :
    Calls Try.prog 55 #[.string s, .string t] w fun e w' => e = .returned (.bool b) ∧ w' = w := by
  subst hb
  by_cases h : t.size ≤ s.size
  · go_enter Try.func55, Try.ntmps55
    go_wp2
    go_ret
    exact ⟨ret_bool (by rw [toList_beq']; simp [pre, h]), rfl⟩
  · go_enter Try.func55, Try.ntmps55
    go_wp2
    go_ret
    exact ⟨ret_bool (by simp [pre, h]), rfl⟩
set_option maxHeartbeats 2000000 in
theorem tagEnd_any (s : ByteArray) (k v : Nat) (w : World) (hs : s.size ≤ mx) (hk : k ≤ s.size) (h33 : bt s k = 33) (hv : tagQ s k = v) :
    Calls Try.prog 51 #[.string s, .int .i64 (k : Int)] w fun e w' => e = .returned (.int .i64 (v : Int)) ∧ Below w.heap.size w w' := by
  have hs' := hs
  unfold mx at hs'
  have HPR := pre_lt s k hk h33
  have HP : Hid (pre (s.extract k s.size) ⟨#[33, 60]⟩ = lt s k) := HPR
  clear HPR h33
  cases hl : lt s k with
  | false =>
    have HH : Hid (false = pre (s.extract k s.size) ⟨#[33, 60]⟩) := by show false = _; rw [HP.out, hl]
    have HV : Hid (fwd pX s k = v) := by show fwd pX s k = v; rw [← hv, tagQ_no1 hl]; rfl
    clear hl hv HP
    go_enter Try.func51, Try.ntmps51
    go_wp2_with fail
    refine (hasp_any _ _ _ false HH.out).mono ?_
    rintro e w1 ⟨rfl, rfl⟩
    go_wp2_with fail
    refine (until_nat s _ k v pE pX _ hs hk pE_signs (fun _ => rfl) HV.out).mono ?_
    rintro e w2 ⟨rfl, hb2⟩
    go_wp2_with fail
    go_ret
    exact ⟨rfl, hb2⟩
  | true =>
    have HH : Hid (true = pre (s.extract k s.size) ⟨#[33, 60]⟩) := by show true = _; rw [HP.out, hl]
    have hk2 := lt_size hl
    have hcg := clo_ge s (k + 2)
    have hcl := clo_le s (k + 2) hk2
    generalize hq : clo s (k + 2) = q at *
    have HQ : Hid (fwd pC s (k + 2) = q) := hq
    by_cases h2 : q = k + 2
    · have HV : Hid (fwd pX s k = v) := by show fwd pX s k = v; rw [← hv, tagQ_no2 hq h2]; rfl
      subst h2
      clear hl hv HP hq
      go_enter Try.func51, Try.ntmps51
      go_wp2_with fail
      refine (hasp_any _ _ _ true HH.out).mono ?_
      rintro e w1 ⟨rfl, rfl⟩
      go_wp2_with fail
      refine (until_nat s _ (k + 2) (k + 2) pA pC _ hs hk2 pA_signs (fun _ => rfl) HQ.out).mono ?_
      rintro e w2 ⟨rfl, hb2⟩
      go_wp2_with fail
      refine (until_nat s _ k v pE pX _ hs hk pE_signs (fun _ => rfl) HV.out).mono ?_
      rintro e w3 ⟨rfl, hb3⟩
      go_wp2_with fail
      go_ret
      exact ⟨rfl, hb2.trans (hb3.mono hb2.size)⟩
    · have h2i : ((k : Int) + 2) < (q : Int) := by omega
      cases h3 : sgn p62 s q with
      | false =>
        have HV : Hid (fwd pX s k = v) := by show fwd pX s k = v; rw [← hv, tagQ_no3 hq h3]; rfl
        have H3 : Hid (false = sgn p62 s q) := h3.symm
        clear hl hv HP hq h2 h3
        go_enter Try.func51, Try.ntmps51
        go_wp2_with fail
        refine (hasp_any _ _ _ true HH.out).mono ?_
        rintro e w1 ⟨rfl, rfl⟩
        go_wp2_with fail
        refine (until_nat s _ (k + 2) q pA pC _ hs hk2 pA_signs (fun _ => rfl) HQ.out).mono ?_
        rintro e w2 ⟨rfl, hb2⟩
        go_wp2_with fail
        refine (signAt_any s _ q p62 _ false p62_signs H3.out).mono ?_
        rintro e w3 ⟨rfl, hb3⟩
        go_wp2_with fail
        refine (until_nat s _ k v pE pX _ hs hk pE_signs (fun _ => rfl) HV.out).mono ?_
        rintro e w4 ⟨rfl, hb4⟩
        go_wp2_with fail
        go_ret
        have hb5 := hb2.trans (hb3.mono hb2.size)
        exact ⟨rfl, hb5.trans (hb4.mono hb5.size)⟩
      | true =>
        have HV : Hid (q + 1 = v) := by show q + 1 = v; rw [← hv, tagQ_yes hl hq (by omega) h3]
        have H3 : Hid (true = sgn p62 s q) := h3.symm
        clear hl hv HP hq h2 h3
        go_enter Try.func51, Try.ntmps51
        go_wp2_with fail
        refine (hasp_any _ _ _ true HH.out).mono ?_
        rintro e w1 ⟨rfl, rfl⟩
        go_wp2_with fail
        refine (until_nat s _ (k + 2) q pA pC _ hs hk2 pA_signs (fun _ => rfl) HQ.out).mono ?_
        rintro e w2 ⟨rfl, hb2⟩
        go_wp2_with fail
        refine (signAt_any s _ q p62 _ true p62_signs H3.out).mono ?_
        rintro e w3 ⟨rfl, hb3⟩
        go_wp2_with fail
        go_ret
        exact ⟨ret_int (by rw [← HV.out]; omega), hb2.trans (hb3.mono hb2.size)⟩
/-- What reading tells: nothing wrong, or an error. -/
def ErrIs (v : Value) (b : Bool) : Prop := (b = true → v = .nilIface) ∧ (b = false → ∃ m, v = .iface 57 (.string m))
def TripPost (t : ByteArray) (q : Nat) (b : Bool) (w : World) (e : Ending) (w' : World) : Prop :=
  ∃ v, e = .returned (.tuple #[.string t, .int .i64 (q : Int), v]) ∧ ErrIs v b ∧ Below w.heap.size w w'
theorem err_no (m : ByteArray) : ErrIs (.iface 57 (.string m)) false := ⟨fun h => by simp at h, fun _ => ⟨m, rfl⟩⟩
theorem err_yes : ErrIs .nilIface true := ⟨fun _ => rfl, fun h => by simp at h⟩
set_option maxHeartbeats 2000000 in
theorem readRawTag_any (s : ByteArray) (p : Int) (w : World) (hs : s.size ≤ mx) :
    Calls Try.prog 33 #[.string s, .int .i64 p] w (TripPost (tagT s (cl s.size p)) (tagE s (cl s.size p)) (tagB s (cl s.size p)) w) := by
  have hcl := cl_le s.size p
  have hs' := hs
  unfold mx at hs'
  go_enter Try.func33, Try.ntmps33
  go_wp2_with fail
  refine (bring_any _ _ _ hs).mono ?_
  rintro e w1 ⟨rfl, rfl⟩
  generalize hk : cl s.size p = k at *
  clear hk
  cases h0 : sgn p33 s k with
  | false =>
    have H0 : Hid (false = sgn p33 s k) := h0.symm
    obtain ⟨e1, e2, e3⟩ := tag_no0 h0
    have E1 : Hid (tagT s k = ByteArray.empty) := e1
    have E2 : Hid (tagE s k = 0) := e2
    have E3 : Hid (tagB s k = false) := e3
    clear h0 e1 e2 e3
    go_wp2_with fail
    refine (signAt_any s _ k p33 _ false p33_signs H0.out).mono ?_
    rintro e w2 ⟨rfl, hb2⟩
    go_wp2_with fail
    go_ret3
    rw [E1.out, E2.out, E3.out]
    exact ⟨_, rfl, err_no _, hb2⟩
  | true =>
    have H0 : Hid (true = sgn p33 s k) := h0.symm
    have h33 : bt s k = 33 := by have := sgn_bt h0; unfold p33 at this; simpa using this
    have H33 : Hid (bt s k = 33) := h33
    have hge := tagQ_ge s k
    have hle := tagQ_le s k hcl
    generalize hq : tagQ s k = q at *
    have HQ : Hid (tagQ s k = q) := hq
    by_cases h2 : (60 : Int) < (q : Int) - (k : Int)
    · obtain ⟨e1, e2, e3⟩ := tag_no2 hq (by omega)
      have E1 : Hid (tagT s k = ByteArray.empty) := e1
      have E2 : Hid (tagE s k = 0) := e2
      have E3 : Hid (tagB s k = false) := e3
      clear h0 e1 e2 e3 hq h33
      go_wp2_with fail
      refine (signAt_any s _ k p33 _ true p33_signs H0.out).mono ?_
      rintro e w2 ⟨rfl, hb2⟩
      go_wp2_with fail
      refine (tagEnd_any s k q _ hs hcl H33.out HQ.out).mono ?_
      rintro e w3 ⟨rfl, hb3⟩
      go_wp2_with fail
      go_ret3
      rw [E1.out, E2.out, E3.out]
      exact ⟨_, rfl, err_no _, hb2.trans (hb3.mono hb2.size)⟩
    · obtain ⟨e1, e2, e3⟩ := tag_yes h0 hq (by omega)
      have E1 : Hid (tagT s k = s.extract k q) := e1
      have E2 : Hid (tagE s k = q) := e2
      have E3 : Hid (tagB s k = true) := e3
      have h2' : (q : Int) - (k : Int) ≤ 60 := by omega
      clear h0 e1 e2 e3 hq h33 h2
      go_wp2_with fail
      refine (signAt_any s _ k p33 _ true p33_signs H0.out).mono ?_
      rintro e w2 ⟨rfl, hb2⟩
      go_wp2_with fail
      refine (tagEnd_any s k q _ hs hcl H33.out HQ.out).mono ?_
      rintro e w3 ⟨rfl, hb3⟩
      go_wp2_with fail
      go_ret3
      rw [E1.out, E2.out, E3.out]
      exact ⟨_, rfl, err_yes, hb2.trans (hb3.mono hb2.size)⟩
theorem tag_any' (s : ByteArray) (p : Int) (w : World) (hs : s.size ≤ mx) (tt : ByteArray) (te : Nat) (tb : Bool) (h1 : tagT s (cl s.size p) = tt) (h2 : tagE s (cl s.size p) = te) (h3 : tagB s (cl s.size p) = tb) :
    Calls Try.prog 13 #[.string s, .int .i64 p] w fun e w' => e = .returned (.tuple #[.string tt, .int .i64 (te : Int), .bool tb]) ∧ Below w.heap.size w w' := by
  have hR := readRawTag_any s p w hs
  rw [h1, h2, h3] at hR
  clear h1 h2 h3
  go_enter Try.func13, Try.ntmps13
  go_wp2_with fail
  refine hR.mono ?_
  rintro e w1 ⟨v, rfl, he, hb1⟩
  cases tb with
  | true =>
    obtain rfl := he.1 rfl
    clear he hR
    go_wp2_with fail
    go_quiet (fail)
    go_wp2
    go_ret3
    exact ⟨rfl, hb1.trans ((below_drewN' _ _).mono hb1.size)⟩
  | false =>
    obtain ⟨m, rfl⟩ := he.2 rfl
    clear he hR
    go_wp2_with fail
    go_quiet (fail)
    go_wp2
    go_ret3
    exact ⟨rfl, hb1.trans ((below_drewN' _ _).mono hb1.size)⟩
theorem tag_any (s : ByteArray) (p : Int) (w : World) (hs : s.size ≤ mx) :
    Calls Try.prog 13 #[.string s, .int .i64 p] w fun e w' => e = .returned (.tuple #[.string (tagT s (cl s.size p)), .int .i64 (tagE s (cl s.size p)), .bool (tagB s (cl s.size p))]) ∧ Below w.heap.size w w' :=
  tag_any' s p w hs _ _ _ rfl rfl rfl
end Go.Proofs.Ytopmboioojedbai
