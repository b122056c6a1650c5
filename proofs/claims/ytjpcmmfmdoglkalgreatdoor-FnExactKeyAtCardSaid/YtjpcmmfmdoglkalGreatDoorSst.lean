/- spec.NameAt and spec.TagAt answer the name and the tag at a place. -/
import Derived.Test.YtjpcmmfmdoglkalGreatDoorNat
import Derived.Test.YtjpcmmfmdoglkalGreatDoorPr
import Derived.OwnWalk
namespace Go.Proofs.YtjpcmmfmdoglkalGreatDoor
open Go.ChangeShapes Go.WideShapes Go.ChangeAt Go.RowKit
theorem gapP_or' (s : ByteArray) (k : Nat) : gapP s k = ((decide (k < s.size) && pW (bt s k)) || brk s k) := by
  unfold gapP brk
  rw [pG_or]
  by_cases h : k < s.size
  · rw [decide_eq_true h, decide_eq_false (by omega)]; simp
  · rw [decide_eq_true (p := s.size ≤ k) (by omega)]; simp
theorem spec_gap1' (s : ByteArray) (k : Nat) (w : World) (b : Bool) (hb : b = gapP s k) :
    Calls Tryz.prog 33 #[.string s, .int .i64 (k : Int)] w fun e w' => e = .returned (.bool b) ∧ w' = w := by
  rw [gapP_or'] at hb
  cases hW : (decide (k < s.size) && pW (bt s k)) with
  | true =>
    have HW : Hid (true = (decide (k < s.size) && pW (bt s k))) := hW.symm
    have HB : Hid (b = true) := by show b = true; rw [hb, hW]; rfl
    clear hW hb
    go_enter Tryz.func33, Tryz.ntmps33
    go_wp2_with fail
    refine (spec_white1 s k _ true HW.out).mono ?_
    rintro e w1 ⟨rfl, rfl⟩
    go_wp2_with fail
    go_ret
    exact ⟨ret_bool HB.out.symm, rfl⟩
  | false =>
    have HW : Hid (false = (decide (k < s.size) && pW (bt s k))) := hW.symm
    have HB : Hid (b = brk s k) := by show b = brk s k; rw [hb, hW]; rfl
    clear hW hb
    go_enter Tryz.func33, Tryz.ntmps33
    go_wp2_with fail
    refine (spec_white1 s k _ false HW.out).mono ?_
    rintro e w1 ⟨rfl, rfl⟩
    go_wp2_with fail
    refine (spec_break s k _ b HB.out).mono ?_
    rintro e w1 ⟨rfl, rfl⟩
    go_wp2_with fail
    go_ret
    exact ⟨ret_bool rfl, rfl⟩
theorem flow_any1 (x : Nat) (w : World) (b : Bool) (hb : b = pF x) :
    Calls Tryz.prog 70 #[.int .u8 (x : Int)] w fun e w' => e = .returned (.bool b) ∧ w' = w := by
  subst hb
  by_cases h1 : x = 44
  · subst h1
    go_enter Tryz.func70, Tryz.ntmps70
    go_wp2_with fail
    go_ret
    exact ⟨rfl, rfl⟩
  by_cases h2 : x = 91
  · subst h2
    go_enter Tryz.func70, Tryz.ntmps70
    go_wp2_with fail
    go_ret
    exact ⟨rfl, rfl⟩
  by_cases h3 : x = 93
  · subst h3
    go_enter Tryz.func70, Tryz.ntmps70
    go_wp2_with fail
    go_ret
    exact ⟨rfl, rfl⟩
  by_cases h4 : x = 123
  · subst h4
    go_enter Tryz.func70, Tryz.ntmps70
    go_wp2_with fail
    go_ret
    exact ⟨rfl, rfl⟩
  have HP : Hid (pF x = ((x : Int) == 125)) := by
    show pF x = ((x : Int) == 125)
    rw [Bool.eq_iff_iff]; unfold pF; simp; omega
  have n1 : ((x : Int) == 44) = false := by rw [beq_eq_false_iff_ne]; omega
  have n2 : ((x : Int) == 91) = false := by rw [beq_eq_false_iff_ne]; omega
  have n3 : ((x : Int) == 93) = false := by rw [beq_eq_false_iff_ne]; omega
  have n4 : ((x : Int) == 123) = false := by rw [beq_eq_false_iff_ne]; omega
  clear h1 h2 h3 h4
  rw [HP.out]
  go_enter Tryz.func70, Tryz.ntmps70
  go_wp2_with fail
  go_ret
  exact ⟨ret_bool (by simp), rfl⟩
theorem gapP_in {s : ByteArray} {k : Nat} (h : gapP s k = false) : k < s.size := by
  unfold gapP at h
  simp only [Bool.or_eq_false_iff, decide_eq_false_iff_not] at h; omega
theorem gapP_bt {s : ByteArray} {k : Nat} (h : gapP s k = false) : pG (bt s k) = false := by
  unfold gapP at h
  simp only [Bool.or_eq_false_iff] at h; exact h.2
theorem fwd_gap {P : Nat → Bool} {s : ByteArray} {k : Nat} (hP : ∀ c, pG c = true → P c = false) (h : gapP s k = true) : fwd P s k = k := by
  unfold gapP at h
  by_cases hk : k < s.size
  · rw [decide_eq_false (by omega), Bool.false_or] at h
    exact fwd_stop (hP _ h)
  · exact fwd_end (by omega)
theorem pX_gap (c : Nat) (h : pG c = true) : pX c = false := by unfold pX pE; rw [h]; rfl
theorem pC_gap (c : Nat) (h : pG c = true) : pC c = false := by unfold pC pA; rw [h]; rfl
set_option maxHeartbeats 1000000 in
theorem stretch_any (s : ByteArray) (q v : Nat) (w : World) (hs : s.size ≤ mx) (hq : q ≤ s.size) (hv : str s q = v) :
    Calls Tryz.prog 64 #[.string s, .int .i64 (q : Int)] w fun e w' => e = .returned (.int .i64 (v : Int)) ∧ w' = w := by
  have hs' := hs
  unfold mx at hs'
  have HV : Hid (str s q = v) := hv
  clear hv
  go_enter Tryz.func64, Tryz.ntmps64
  go_wp2_with fail
  go_loop [1] (fun t => ∃ k : Nat, k ≤ s.size ∧ t = .int .i64 k ∧ Hid (str s k = v)) (fun t => s.size - (intOf t).toNat)
  case atStart => exact ⟨q, hq, rfl, HV⟩
  case round =>
    obtain ⟨k, hk, rfl, HL⟩ := hrel
    cases hG : gapP s k with
    | true =>
      have HG : Hid (true = gapP s k) := hG.symm
      have HE : Hid (v = k) := by show v = k; rw [← HL.out]; exact fwd_gap pX_gap hG
      clear hG
      go_wp2_with fail
      refine (spec_gap1' s k _ true HG.out).mono ?_
      rintro e w2 ⟨rfl, rfl⟩
      go_wp2_with fail
      go_ret
      exact ⟨ret_int (by rw [HE.out]), rfl⟩
    | false =>
      have HG : Hid (false = gapP s k) := hG.symm
      have hlt := gapP_in hG
      have hg := bt_get s k hlt
      cases hF : pF (bt s k) with
      | true =>
        have HF : Hid (true = pF ((s[k]'hlt).toNat)) := by show true = _; rw [hg, hF]
        have HE : Hid (v = k) := by show v = k; rw [← HL.out]; exact fwd_stop (by unfold pX pE; rw [hF]; simp)
        clear hG hF hg
        go_wp2_with fail
        refine (spec_gap1' s k _ false HG.out).mono ?_
        rintro e w2 ⟨rfl, rfl⟩
        go_wp2_with fail
        refine (flow_any1 _ _ true HF.out).mono ?_
        rintro e w2 ⟨rfl, rfl⟩
        go_wp2_with fail
        go_ret
        exact ⟨ret_int (by rw [HE.out]), rfl⟩
      | false =>
        have HF : Hid (false = pF ((s[k]'hlt).toNat)) := by show false = _; rw [hg, hF]
        have HE : Hid (str s (k + 1) = v) := by
          show str s (k + 1) = v
          rw [← HL.out]; exact (fwd_step hlt (by unfold pX pE; rw [hF, gapP_bt hG]; rfl)).symm
        clear hG hF hg
        go_wp2_with fail
        refine (spec_gap1' s k _ false HG.out).mono ?_
        rintro e w2 ⟨rfl, rfl⟩
        go_wp2_with fail
        refine (flow_any1 _ _ false HF.out).mono ?_
        rintro e w2 ⟨rfl, rfl⟩
        go_wp2_with fail
        go_round
        case rel => exact ⟨k + 1, by omega, by go_num, HE⟩
        case measure => simp [intOf]; omega
def closeR (s : ByteArray) (k : Nat) : Int := if sgn p62 s (clo s k) = true then (clo s k : Int) + 1 else -1
set_option maxHeartbeats 1000000 in
theorem close_any (s : ByteArray) (q : Nat) (v : Int) (w : World) (hs : s.size ≤ mx) (hq : q ≤ s.size) (hv : closeR s q = v) :
    Calls Tryz.prog 147 #[.string s, .int .i64 (q : Int)] w fun e w' => e = .returned (.int .i64 v) ∧ w' = w := by
  have hs' := hs
  unfold mx at hs'
  have HV : Hid (closeR s q = v) := hv
  clear hv
  go_enter Tryz.func147, Tryz.ntmps147
  go_wp2_with fail
  go_loop [1] (fun t => ∃ k : Nat, k ≤ s.size ∧ t = .int .i64 k ∧ Hid (closeR s k = v)) (fun t => s.size - (intOf t).toNat)
  case atStart => exact ⟨q, hq, rfl, HV⟩
  case round =>
    obtain ⟨k, hk, rfl, HL⟩ := hrel
    cases hG : gapP s k with
    | true =>
      have HG : Hid (true = gapP s k) := hG.symm
      have HE : Hid (v = -1) := by
        show v = -1
        rw [← HL.out]; unfold closeR
        have hc : clo s k = k := fwd_gap pC_gap hG
        rw [hc]
        refine if_neg ?_
        intro h
        have h1 := sgn_lt h
        have h2 := sgn_bt h
        unfold gapP at hG
        rw [decide_eq_false (by omega), Bool.false_or] at hG
        unfold p62 at h2
        simp only [beq_iff_eq] at h2
        rw [h2] at hG
        exact absurd hG (by decide)
      clear hG
      go_wp2_with fail
      refine (spec_gap1' s k _ true HG.out).mono ?_
      rintro e w2 ⟨rfl, rfl⟩
      go_wp2_with fail
      go_ret
      exact ⟨ret_int HE.out.symm, rfl⟩
    | false =>
      have HG : Hid (false = gapP s k) := hG.symm
      have hlt := gapP_in hG
      have hg := bt_get s k hlt
      by_cases hF : bt s k = 62
      · have hc : (s[k]'hlt).toNat = 62 := by rw [hg, hF]
        have HE : Hid (v = (k : Int) + 1) := by
          show v = (k : Int) + 1
          rw [← HL.out]; unfold closeR
          have hcl : clo s k = k := fwd_stop (by unfold pC pA; rw [hF]; rfl)
          rw [hcl, if_pos (by unfold sgn p62; rw [hF, decide_eq_true hlt]; rfl)]
        clear hG hF hg
        go_wp2_with fail
        refine (spec_gap1' s k _ false HG.out).mono ?_
        rintro e w2 ⟨rfl, rfl⟩
        go_wp2_with fail
        go_ret
        exact ⟨ret_int HE.out.symm, rfl⟩
      · have hc : (((s[k]'hlt).toNat : Int) == 62) = false := by rw [hg, beq_eq_false_iff_ne]; omega
        have HE : Hid (closeR s (k + 1) = v) := by
          show closeR s (k + 1) = v
          rw [← HL.out]; unfold closeR
          have hcl : clo s k = clo s (k + 1) := fwd_step hlt (by unfold pC pA; rw [gapP_bt hG, beq_eq_false_iff_ne.2 hF]; rfl)
          rw [hcl]
        clear hG hF hg
        go_wp2_with fail
        refine (spec_gap1' s k _ false HG.out).mono ?_
        rintro e w2 ⟨rfl, rfl⟩
        go_wp2_with fail
        go_round
        case rel => exact ⟨k + 1, by omega, by go_num, HE⟩
        case measure => simp [intOf]; omega
theorem ret_trip {t u : ByteArray} {a c : Int} {b d : Bool} (h0 : t = u) (h : a = c) (h' : b = d) : Ending.returned (.tuple #[.string t, .int .i64 a, .bool b]) = .returned (.tuple #[.string u, .int .i64 c, .bool d]) := by rw [h0, h, h']
set_option maxHeartbeats 2000000 in
theorem spec_name_k (s : ByteArray) (p : Int) (k : Nat) (w : World) (hs : s.size ≤ mx) (hk : cl s.size p = k) :
    Calls Tryz.prog 26 #[.string s, .int .i64 p] w fun e w' => e = .returned (.tuple #[.string (nameT s k), .int .i64 (nameE s k), .bool (nameB s k)]) ∧ w' = w := by
  have hcl := cl_le s.size p
  rw [hk] at hcl
  have HK : Hid (cl s.size p = k) := hk
  clear hk
  have hs' := hs
  unfold mx at hs'
  go_enter Tryz.func26, Tryz.ntmps26
  go_wp2_with fail
  refine (l01P_any _ _ _ hs).mono ?_
  rintro e w1 ⟨rfl, rfl⟩
  rw [HK.out]
  cases h0 : sgn p38 s k with
  | false =>
    obtain ⟨e1, e2, e3⟩ := name_no0 h0
    have E1 : Hid (nameT s k = ByteArray.empty) := e1
    have E2 : Hid (nameE s k = 0) := e2
    have E3 : Hid (nameB s k = false) := e3
    clear e1 e2 e3
    by_cases hlt : k < s.size
    · have hg := bt_get s k hlt
      have hn := sgn_no h0 hlt
      unfold p38 at hn
      simp only [Bool.or_eq_false_iff, beq_eq_false_iff_ne] at hn
      have n1 : (((s[k]'hlt).toNat : Int) != 38) = true := by rw [hg, bne_iff_ne]; omega
      have n2 : (((s[k]'hlt).toNat : Int) != 42) = true := by rw [hg, bne_iff_ne]; omega
      clear hn hg h0
      go_wp2_with fail
      go_ret3
      exact ⟨ret_trip E1.out.symm (by rw [E2.out]; rfl) E3.out.symm, rfl⟩
    · have hge : (s.size : Int) ≤ (k : Int) := by omega
      clear h0 hlt
      go_wp2_with fail
      go_ret3
      exact ⟨ret_trip E1.out.symm (by rw [E2.out]; rfl) E3.out.symm, rfl⟩
  | true =>
    have hlt := sgn_lt h0
    have hg := bt_get s k hlt
    have hpb := sgn_bt h0
    have hge := str_ge s (k + 1)
    have hle := str_le s (k + 1) hlt
    generalize hq : str s (k + 1) = q at *
    have HQ : Hid (str s (k + 1) = q) := hq
    have hA : Hid (sgn p38 s k = true) := h0
    have hF : (((s[k]'hlt).toNat : Int) != 38) = false ∨ ((((s[k]'hlt).toNat : Int) != 38) = true ∧ (((s[k]'hlt).toNat : Int) != 42) = false) := by
      unfold p38 at hpb
      simp only [Bool.or_eq_true, beq_iff_eq] at hpb
      rcases hpb with h | h
      · left; rw [hg, h]; rfl
      · right; rw [hg, h]; exact ⟨rfl, rfl⟩
    clear hpb hg h0 hq
    by_cases h1 : q = k + 1
    · obtain ⟨e1, e2, e3⟩ := name_no1 HQ.out h1
      have E1 : Hid (nameT s k = ByteArray.empty) := e1
      have E2 : Hid (nameE s k = 0) := e2
      have E3 : Hid (nameB s k = false) := e3
      subst h1
      clear e1 e2 e3
      rcases hF with h38 | ⟨h38, h42⟩
      all_goals
        go_wp2_with fail
        refine (stretch_any s (k + 1) (k + 1) _ hs hlt HQ.out).mono ?_
        rintro e w2 ⟨rfl, rfl⟩
        go_wp2_with fail
        go_ret3
        exact ⟨ret_trip E1.out.symm (by rw [E2.out]; rfl) E3.out.symm, rfl⟩
    · have hne : ((q : Int) == (k : Int) + 1) = false := by rw [beq_eq_false_iff_ne]; omega
      by_cases h2 : k + 61 < q
      · obtain ⟨e1, e2, e3⟩ := name_no2 HQ.out h2
        have E1 : Hid (nameT s k = ByteArray.empty) := e1
        have E2 : Hid (nameE s k = 0) := e2
        have E3 : Hid (nameB s k = false) := e3
        have h2' : (60 : Int) < (q : Int) - (k : Int) - 1 := by omega
        clear e1 e2 e3 h1 h2
        rcases hF with h38 | ⟨h38, h42⟩
        all_goals
          go_wp2_with fail
          refine (stretch_any s (k + 1) q _ hs hlt HQ.out).mono ?_
          rintro e w2 ⟨rfl, rfl⟩
          go_wp2_with fail
          go_ret3
          exact ⟨ret_trip E1.out.symm (by rw [E2.out]; rfl) E3.out.symm, rfl⟩
      · obtain ⟨e1, e2, e3⟩ := name_yes hA.out HQ.out (by omega) (by omega)
        have E1 : Hid (nameT s k = s.extract (k + 1) q) := e1
        have E2 : Hid (nameE s k = q) := e2
        have E3 : Hid (nameB s k = true) := e3
        have h2' : (q : Int) - (k : Int) - 1 ≤ 60 := by omega
        clear e1 e2 e3 h1 h2
        rcases hF with h38 | ⟨h38, h42⟩
        all_goals
          go_wp2_with fail
          refine (stretch_any s (k + 1) q _ hs hlt HQ.out).mono ?_
          rintro e w2 ⟨rfl, rfl⟩
          go_wp2_with fail
          go_ret3
          exact ⟨ret_trip E1.out.symm (by rw [E2.out]) E3.out.symm, rfl⟩
theorem spec_name (s : ByteArray) (p : Int) (w : World) (hs : s.size ≤ mx) :
    Calls Tryz.prog 26 #[.string s, .int .i64 p] w fun e w' => e = .returned (.tuple #[.string (nameT s (cl s.size p)), .int .i64 (nameE s (cl s.size p)), .bool (nameB s (cl s.size p))]) ∧ w' = w :=
  spec_name_k s p _ w hs rfl
end Go.Proofs.YtjpcmmfmdoglkalGreatDoor
